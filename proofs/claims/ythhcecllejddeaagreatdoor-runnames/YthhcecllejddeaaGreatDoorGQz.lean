/- The reader's programs. -/
import Derived.Test.YthhcecllejddeaaGreatDoorGQy
import Derived.Deep.Quiet
import Derived.Tactics
namespace Go.Proofs.YthhcecllejddeaaGreatDoor
open Go.RowKit
theorem insCells_one (x : Ins) : ∀ u ∈ insCells x, u.oneCell' = true := by
 intro u hu
 simp only [insCells, List.mem_cons, List.not_mem_nil, or_false] at hu
 rcases hu with rfl | rfl | rfl | rfl | rfl <;> rfl
def codI (w : World) (r : Nat) (a : Option Addr) (cap : Nat) (bs : List Nat) (K : Int) (p n : Nat) (wr : World) (a1 : Option Addr) (c1 : Nat) (l : List Ins) (s : St) : Prop :=
 MkI w r a cap bs s wr 54 5 a1 l.length c1 (pCells l) ∧ Stage (codP K bs p) s (repP (fun _ => insP n K) (n - l.length) l bs s.nx) ∧ (s.e = 0 → n ≤ 256)
def codOut (w : World) (r : Nat) (a : Option Addr) (cap : Nat) (bs : List Nat) (K : Int) (p : Nat) (a1 : Option Addr) (c1 : Nat) (l : List Ins) (w' : World) : Prop :=
 ∃ s, MkI w r a cap bs s w' 54 5 a1 l.length c1 (pCells l) ∧ Stage (codP K bs p) s (pure_ l bs s.nx) ∧ l.length ≤ 65536
section
variable {w : World} {r : Nat} {a : Option Addr} {cap : Nat} {bs : List Nat} {s : St}
set_option maxRecDepth 100000 in
set_option maxHeartbeats 4000000 in
theorem program_any (h : RdAt w r a cap bs s) (hF : Fld w) (hr : 2 ≤ r) (h0 : s.e = 0 ∧ s.at_ = 0) (K : Int) :
  Calls Tryz.prog 66 #[.pointer (some ⟨r, 0, none⟩), .int .i64 K] w fun e w' => ∃ a1 c1 l, e = .returned (.slice a1 (List.length l) c1) ∧ codOut w r a cap bs K s.nx a1 c1 l w' := by
 have hc := small_any h 2 ⟨by omega, by omega⟩
 have hl := numS_lt (s := s) h.byte 2 (by omega)
 have H := hd h
 have HF := hd hF
 have HI : Hid (∀ W, ROut w r a cap bs (failS (numS bs 2 s).2 (lenE (numS bs 2 s).1) (numS bs 2 s).2.fr) W → codI w r a cap bs K s.nx (numS bs 2 s).1 W none 0 [] (failS (numS bs 2 s).2 (lenE (numS bs 2 s).1) (numS bs 2 s).2.fr)) := hd (by
  intro W o
  refine ⟨⟨o, Row.nil, fun k hk => by cases hk⟩, ?_, fun hz => ?_⟩
  ·exact Stage.chk (k := 2) (f := lenE) (g := fun n => repP (fun _ => insP n K) n []) (.inl ⟨h0.1, h0.2, rfl⟩)
  ·have h1 := (chk_val (k := 2) (f := lenE) hz).2.1
   have h2 : (chkS bs 2 lenE s).1 = (numS bs 2 s).1 := rfl
   rw [h2] at h1
   unfold lenE at h1
   split at h1
   ·simp at h1
   ·omega)
 have HE : Hid (lenE (numS bs 2 s).1 = if 256 < (numS bs 2 s).1 then 3 else 0) := hd rfl
 clear h h0 hF
 generalize lenE (numS bs 2 s).1 = E at *
 generalize (numS bs 2 s).1 = n at *
 generalize (numS bs 2 s).2 = s1 at *
 generalize s.nx = p at *
 go_enter Tryz.func66, Tryz.ntmps66
 go_upto_region 2 with (go_at_call 97; refine hc.mono ?_; rintro e w1 ⟨rfl, ho⟩)
 replace ho := hd ho
 have k1 := ho.out.1.cells.2.1
 have hf := fail_any ho.out.1 3 s1.fr
 clear hc
 go_upto_if 10 with fail
 go_cut [10] from 11 to 16 (fun v10 wy => ROut w r a cap bs (failS s1 E s1.fr) wy)
 case first =>
  by_cases h2 : 256 < n
  ·have h2' : (256 : Int) < (n : Int) := by omega
   obtain rfl : E = 3 := by rw [HE.out, if_pos h2]
   clear HE
   go_wp2_with (go_at_call 98; refine hf.mono ?_; rintro e w2 ⟨rfl, ho2⟩)
   go_meet
   exact ho.out.trans ho2
  ·have h2' : (n : Int) ≤ 256 := by omega
   have h2d : decide ((256 : Int) < (n : Int)) = false := by simp; omega
   obtain rfl : E = 0 := by rw [HE.out, if_neg h2]
   clear HE
   go_wp2_with fail
   go_meet
   rw [failS_ok]
   exact ho.out
 case rest =>
 have HJ := hd (HI.out _ hcut)
 clear HI hcut hf k1 ho HE
 generalize failS s1 E s1.fr = s2 at *
 go_wp2_with fail
 go_loopg [6, 17, 18, 19, 20, 21, 22, 23, 24, 25, 26, 27, 28, 29, 30, 31, 32] n (fun g v6 v17 v18 v19 v20 v21 v22 v23 v24 v25 v26 v27 v28 v29 v30 v31 v32 wr => ∃ (l : List Ins) (len : Nat) (a1 : Option Addr) (c1 : Nat) (s' : St), v6 = .slice a1 len c1 ∧ len + g = n ∧ Hid (l.length = len) ∧ Hid (codI w r a cap bs K p n wr a1 c1 l s'))
 case atStart => exact ⟨[], 0, none, 0, s2, rfl, by omega, hd rfl, HJ⟩
 case round =>
  clear HJ
  obtain ⟨l, len, a1, c1, s', rfl, hlen, HL, HW⟩ := hrel
  by_cases h0 : gk = 0
  ·subst h0
   have hge : decide ((len : Int) < (n : Int)) = false := by simp; omega
   have hge' : (n : Int) ≤ (len : Int) := by omega
   have HE : Hid (∃ l', Ending.returned (.slice a1 len c1) = .returned (.slice a1 (List.length l') c1) ∧ codOut w r a cap bs K p a1 c1 l' wr) := hd (by
    refine ⟨l, by rw [HL.out], s', HW.out.1, ?_, by have := HL.out; omega⟩
    have := HW.out.2.1
    rw [show n - l.length = 0 by have := HL.out; omega] at this
    exact this)
   clear HW HL
   go_wp2_with fail
   go_ret
   obtain ⟨l', h1, h2⟩ := HE.out
   exact ⟨a1, c1, l', h1, h2⟩
  ·have hlt : (len : Int) < (n : Int) := by omega
   by_cases hz : s'.e = 0
   ·have hf := failed_any HW.out.1.out.1 false (by simp [hz])
    have hnum := ins_any HW.out.1.out.1 (HF.out.mod HW.out.1.out.2 (by omega)) hr n K
    have HP : Hid (∀ W, ROut wr r a cap bs (insS bs n K s') W → ∃ a' c' w', (∀ ty, (Builtin.append_ #[55, 55] ty #[.slice a1 len c1, .slice (some ⟨W.heap.size, 0, none⟩) 1 1]).run Tryz.prog (W.alloc (.cells #[.int .i64 (rawI bs s').op, .int .i64 (rawI bs s').a, .int .i64 (rawI bs s').b, .int .i64 (rawI bs s').c, .int .i64 (rawI bs s').imm] 54)) = .ok (.slice a' (len + 1) c') w') ∧ ∃ s'', codI w r a cap bs K p n w' a' c' (l ++ [rawI bs s']) s'') := hd (by
     intro W o
     have h1 := HW.out.1.step H.out.lt o
     rw [HL.out] at h1
     obtain ⟨a', c', w', k1, k2⟩ := h1.push H.out Tryz.underlying55 info_insn rfl (by omega) (by omega) (insCells (rawI bs s')) rfl (insCells_one _)
     refine ⟨a', c', w', k1, insS bs n K s', ?_, ?_, ?_⟩
     ·rw [pCells_snoc, show (l ++ [rawI bs s']).length = len + 1 by simp [HL.out]]
      exact k2
     ·have hst := HW.out.2.1
      have hll := HL.out
      rw [show n - l.length = (n - (l.length + 1)) + 1 by omega] at hst
      rw [show n - (l ++ [rawI bs s']).length = n - (l.length + 1) by simp]
      exact Stage.ins (by omega) hst hz HW.out.1.out.1.nx
     ·intro _
      exact HW.out.2.2 hz)
    clear HW h0 hz
    generalize insS bs n K s' = s3 at *
    generalize rawI bs s' = x at *
    obtain ⟨o0, o1, o2, o3, o4⟩ := x
    unfold insV at hnum
    simp only at hnum HP
    go_wp2_with (first | (go_at_call 60; refine hf.mono ?_; rintro e w1 ⟨rfl, rfl⟩) | (go_at_call 100; refine hnum.mono ?_; rintro e w2 ⟨rfl, ho⟩; obtain ⟨a', c', w3, hap, s'', hI⟩ := HP.out w2 ho; replace hap := hd hap) | (at_builtin; refine wpList_append_run rfl _ _ _ rfl _ _ _ _ rfl rfl hap.out ?_; clear hap))
    go_roundg (gk - 1)
    case rel => exact ⟨l ++ [⟨o0, o1, o2, o3, o4⟩], len + 1, a', c', s'', rfl, by omega, hd (by rw [← HL.out]; simp), hd hI⟩
    case measure => omega
   ·have hf := failed_any HW.out.1.out.1 true (by simp [hz])
    have HE : Hid (∃ l', Ending.returned (.slice a1 len c1) = .returned (.slice a1 (List.length l') c1) ∧ codOut w r a cap bs K p a1 c1 l' wr) := hd (by
     refine ⟨l, by rw [HL.out], s', HW.out.1, ?_, by have := HL.out; omega⟩
     exact .inr ⟨hz, HW.out.2.1.bad hz⟩)
    clear HW HL h0 hz
    go_wp2_with (go_at_call 60; refine hf.mono ?_; rintro e w1 ⟨rfl, rfl⟩)
    go_ret
    obtain ⟨l', h1, h2⟩ := HE.out
    exact ⟨a1, c1, l', h1, h2⟩
end
end Go.Proofs.YthhcecllejddeaaGreatDoor

namespace Go.Proofs.YthhcecllejddeaaGreatDoor
section
variable {P : Program}
def waits (l : List Oper) (j i : Nat) : Bool := match l[j]? with | some o => o.after.any (fun e => Region.binds .any e && e.on == i) | none => false
theorem waits_spec {l : List Oper} {j i : Nat} (h : waits l j i = true) : ∃ o, l[j]? = some o ∧ ∃ e ∈ o.after, Region.binds .any e = true ∧ e.on = i := by
 unfold waits at h
 split at h
 ·next o ho =>
  obtain ⟨e, he, hb⟩ := Array.any_eq_true'.1 h
  simp only [Bool.and_eq_true, beq_iff_eq] at hb
  exact ⟨o, ho, e, he, hb.1, hb.2⟩
 ·cases h
def lastB (l : List Oper) (n : Nat) : Bool :=
 l.all (fun o => o.guard.isNone) && (List.range n).all (fun i => match l[i]? with | some o => o.after.all (fun e => !Region.binds .any e || decide (e.on < i)) | none => false) &&
 (match l[n]? with | some o => o.after.all (fun e => !Region.binds .any e || decide (e.on < n)) && (List.range n).all (fun i => waits l n i || (List.range n).any (fun j => decide (i < j) && waits l j i)) | none => false)
theorem push_at (L : Array Bool) (i : Nat) (d : Bool) (h : i < L.size) : (L.push false).getD i d = L.getD i d := by
 simp [Array.getD_eq_getD_getElem?, Array.getElem?_push, Nat.ne_of_lt h]
theorem push_end (L : Array Bool) (i : Nat) (h : L.size ≤ i) : (L.push false).getD i false = false ∧ L.getD i false = false := by
 constructor
 ·simp only [Array.getD_eq_getD_getElem?, Array.getElem?_push]
  split
  ·rfl
  ·rw [Array.getElem?_eq_none h]; rfl
 ·simp [Array.getD_eq_getD_getElem?, Array.getElem?_eq_none h]
theorem in_both {L : Array Bool} {i : Nat} (h : i < L.size) : L.getD i true = L.getD i false := by simp [Array.getD_eq_getD_getElem?, h]
theorem ready_head {l : List Oper} {n : Nat} (L : Array Bool) (hL : L.size = n) (i : Nat) (hi : i < n) : i ∈ Region.ready .any l.toArray (L.push false) ↔ i ∈ Region.ready .any (l.take n).toArray L := by
 rw [mem_ready, mem_ready, push_at _ _ _ (by omega)]
 have e : (l.take n).toArray[i]? = l.toArray[i]? := by simp [hi]
 have k : ∀ j, (L.push false).getD j false = L.getD j false := fun j => by
  rcases Nat.lt_or_ge j L.size with h | h
  ·exact push_at _ _ _ h
  ·rw [(push_end L j h).1, (push_end L j h).2]
 simp only [e, k]
structure LastOk (l : List Oper) (n : Nat) (o : Oper) : Prop where
 len : l.length = n + 1
 at' : l[n]? = some o
 bare : ∀ x ∈ l, x.guard = none
 up : ∀ i x, i < n → l[i]? = some x → ∀ e ∈ x.after, Region.binds .any e = true → e.on < i
 low : ∀ e ∈ o.after, Region.binds .any e = true → e.on < n
 all : ∀ i, i < n → waits l n i = true ∨ ∃ j, i < j ∧ j < n ∧ waits l j i = true
theorem lastOk {l : List Oper} {n : Nat} {o : Oper} (h : lastB l n = true) (hl : l.length = n + 1) (ho : l[n]? = some o) : LastOk l n o := by
 unfold lastB at h
 simp only [Bool.and_eq_true, ho] at h
 obtain ⟨⟨h1, h2⟩, h3, h4⟩ := h
 refine ⟨hl, ho, fun x hx => by simpa using List.all_eq_true.1 h1 x hx, fun i x hi hx e he hb => ?_, fun e he hb => ?_, fun i hi => ?_⟩
 ·have h5 := List.all_eq_true.1 h2 i (List.mem_range.2 hi)
  simp only [hx] at h5
  have h6 := Array.all_eq_true'.1 h5 e he
  simpa [hb] using h6
 ·have h6 := Array.all_eq_true'.1 h3 e he
  simpa [hb] using h6
 ·have h5 := List.all_eq_true.1 h4 i (List.mem_range.2 hi)
  simp only [Bool.or_eq_true] at h5
  rcases h5 with h5 | h5
  ·exact .inl h5
  ·obtain ⟨j, hj, hw⟩ := List.any_eq_true.1 h5
   simp only [Bool.and_eq_true, decide_eq_true_eq] at hw
   exact .inr ⟨j, hw.1, List.mem_range.1 hj, hw.2⟩
def Clo (l : List Oper) (n : Nat) (L : Array Bool) : Prop := ∀ j x, j < n → l[j]? = some x → L.getD j false = true → ∀ e ∈ x.after, Region.binds .any e = true → L.getD e.on false = true
theorem set_true {L : Array Bool} {i j : Nat} (h : L.getD j false = true) : (L.setIfInBounds i true).getD j false = true := by
 by_cases hij : i = j
 ·subst hij
  have hlt : i < L.size := by
   rcases Nat.lt_or_ge i L.size with h' | h'
   ·exact h'
   ·rw [(push_end L i h').2] at h; cases h
  rw [Array.getD_eq_getD_getElem?, Array.getElem?_setIfInBounds_self_of_lt hlt]
  rfl
 ·rw [Array.getD_eq_getD_getElem?, Array.getElem?_setIfInBounds_ne hij, ← Array.getD_eq_getD_getElem?]
  exact h
theorem Clo.set {l : List Oper} {n : Nat} {L : Array Bool} (h : Clo l n L) {i : Nat} (hi : i ∈ Region.ready .any (l.take n).toArray L) : Clo l n (L.setIfInBounds i true) := by
 intro j x hj hx hl e he hb
 by_cases hij : i = j
 ·subst hij
  obtain ⟨_, y, hy, hall⟩ := mem_ready.1 hi
  have e1 : (l.take n).toArray[i]? = some x := by simp [hj, hx]
  obtain rfl : x = y := Option.some.inj (e1.symm.trans hy)
  exact set_true (hall e he hb)
 ·rw [Array.getD_eq_getD_getElem?, Array.getElem?_setIfInBounds_ne hij, ← Array.getD_eq_getD_getElem?] at hl
  exact set_true (h j x hj hx hl e he hb)
section
variable {l : List Oper} {n : Nat} {o : Oper}
theorem some_ready (h : LastOk l n o) (L : Array Bool) (hL : L.size = n) : ∀ i, i < n → L.getD i false = false → ∃ j, j < n ∧ j ∈ Region.ready .any (l.take n).toArray L := by
 intro i
 induction i using Nat.strongRecOn with
 | _ i ih =>
  intro hi hf
  have hlen := h.len
  obtain ⟨x, hx⟩ : ∃ x, l[i]? = some x := ⟨_, List.getElem?_eq_getElem (by omega)⟩
  by_cases hr : ∀ e ∈ x.after, Region.binds .any e = true → L.getD e.on false = true
  ·refine ⟨i, hi, mem_ready.2 ⟨by rw [in_both (by omega)]; exact hf, x, by simp [hi, hx], hr⟩⟩
  ·obtain ⟨e, he, hb, hne⟩ : ∃ e, ∃ _ : e ∈ x.after, ∃ _ : Region.binds .any e = true, ¬ L.getD e.on false = true := by
    simpa only [Classical.not_forall] using hr
   have hlt := h.up i x hi hx e he hb
   exact ih e.on hlt (by omega) (by simpa using hne)
theorem last_ready (h : LastOk l n o) (L : Array Bool) (hL : L.size = n) (hc : Clo l n L) : n ∈ Region.ready .any l.toArray (L.push false) ↔ ∀ i, i < n → L.getD i false = true := by
 rw [mem_ready]
 constructor
 ·rintro ⟨_, x, hx, hall⟩
  have ex : x = o := by
   have h1 := h.at'
   simp at hx
   rw [hx] at h1
   exact Option.some.inj h1
  subst ex
  have key : ∀ d i, n - i = d → i < n → L.getD i false = true := by
   intro d
   induction d using Nat.strongRecOn with
   | _ d ih =>
    intro i hd hi
    rcases h.all i hi with hw | ⟨j, hij, hj, hw⟩
    ·obtain ⟨y, hy, e, he, hb, hon⟩ := waits_spec hw
     have ey : y = x := Option.some.inj (hy.symm.trans h.at')
     subst ey
     have := hall e he hb
     rwa [hon, push_at _ _ _ (by omega)] at this
    ·obtain ⟨y, hy, e, he, hb, hon⟩ := waits_spec hw
     have := hc j y hj hy (ih (n - j) (by omega) j rfl hj) e he hb
     rwa [hon] at this
  exact fun i hi => key _ i rfl hi
 ·intro hall
  refine ⟨by subst hL; rw [Array.getD_eq_getD_getElem?, Array.getElem?_push_size]; rfl, o, by simpa using h.at', fun e he hb => ?_⟩
  have := h.low e he hb
  rw [push_at _ _ _ (by omega)]
  exact hall _ this
theorem in_range (h : LastOk l n o) (L : Array Bool) {i : Nat} (hi : i ∈ Region.ready .any l.toArray L) : i < n ∨ i = n := by
 obtain ⟨_, x, hx, _⟩ := mem_ready.1 hi
 have := (Array.getElem?_eq_some_iff.1 hx).1
 have h1 := h.len
 simp at this
 omega
theorem none_left (h : LastOk l n o) (L : Array Bool) (hL : L.size = n) (hall : ∀ i, i < n → L.getD i false = true) : Region.ready .any l.toArray ((L.push false).setIfInBounds n true) = [] := by
 rw [List.eq_nil_iff_forall_not_mem]
 intro i hi
 have h1 := (mem_ready.1 hi).1
 rcases in_range h _ hi with h2 | h2
 ·rw [Array.getD_eq_getD_getElem?, Array.getElem?_setIfInBounds_ne (by omega), ← Array.getD_eq_getD_getElem?, push_at _ _ _ (by omega), in_both (by omega), hall i h2] at h1
  cases h1
 ·subst h2
  rw [Array.getD_eq_getD_getElem?, Array.getElem?_setIfInBounds_self_of_lt (by simp [hL])] at h1
  cases h1
theorem all_or (L : Array Bool) (n : Nat) : (∀ i, i < n → L.getD i false = true) ∨ ∃ i, i < n ∧ L.getD i false = false := by
 by_cases h : ∃ i, i < n ∧ L.getD i false = false
 ·exact .inr h
 ·refine .inl fun i hi => ?_
  cases hb : L.getD i false with
  | true => rfl
  | false => exact absurd ⟨i, hi, hb⟩ h
variable {C : World → Prop} {Q : Exit → Act → World → Prop}
theorem last_op (h : LastOk l n o) (L : Array Bool) (hL : L.size = n) (hall : ∀ i, i < n → L.getD i false = true) {a : Act} {w : World} (hw : wpList P l.toArray Q [o] a w) (f : Nat) :
  wpOp P l.toArray Q n (wpAny P .any l.toArray Q f ((L.push false).setIfInBounds n true)) a w := by
 have h0 : l.toArray[n]? = some o := by simpa using h.at'
 have h1 : wpOp P l.toArray Q n (wpList P l.toArray Q []) a w := by
  unfold wpOp
  simp only [h0]
  exact hw
 refine wpOp_mono (fun a' w' hq => ?_) h1
 have hr := none_left h L hL hall
 cases f with
 | zero => exact ⟨hr, hq⟩
 | succ f => exact ⟨fun _ => hq, fun i hi => by rw [hr] at hi; cases hi⟩
theorem wp_to_last (h : LastOk l n o) : ∀ (f : Nat) (L : Array Bool) (a : Act) (w : World), L.size = n → Clo l n L → C w →
  wpAnyQ P .any (l.take n).toArray C (fun a' => ∀ w', C w' → wpList P l.toArray Q [o] a' w') f L a → wpAny P .any l.toArray Q (f + 1) (L.push false) a w := by
 have hlen := h.len
 intro f
 induction f with
 | zero =>
  intro L a w hL hc hC hq
  have hall : ∀ i, i < n → L.getD i false = true := by
   rcases all_or L n with h1 | ⟨i, hi, hf⟩
   ·exact h1
   ·obtain ⟨j, _, hj⟩ := some_ready h L hL i hi hf
    rw [hq.1] at hj
    cases hj
  refine ⟨fun h0 => ?_, fun i hi => ?_⟩
  ·have := (last_ready h L hL hc).2 hall
   rw [h0] at this
   cases this
  ·rcases in_range h _ hi with h2 | rfl
   ·have := (ready_head L hL i h2).1 hi
    rw [hq.1] at this
    cases this
   ·exact last_op h L hL hall (hq.2 w hC) 0
 | succ f ih =>
  intro L a w hL hc hC hq
  refine ⟨fun h0 => ?_, fun i hi => ?_⟩
  ·rcases all_or L n with hall | ⟨i, hi, hf⟩
   ·have := (last_ready h L hL hc).2 hall
    rw [h0] at this
    cases this
   ·obtain ⟨j, hj, hjr⟩ := some_ready h L hL i hi hf
    have := (ready_head (l := l) L hL j hj).2 hjr
    rw [h0] at this
    cases this
  ·rcases in_range h _ hi with h2 | rfl
   ·have h3 := hq.2 i ((ready_head L hL i h2).1 hi)
    have h4 : wpOp P (l.take n).toArray Q i (wpAny P .any l.toArray Q (f + 1) ((L.setIfInBounds i true).push false)) a w :=
     wpOp_of_qOp hC (fun a' w' hw' hk => ih (L.setIfInBounds i true) a' w' (by simp [hL]) (hc.set ((ready_head L hL i h2).1 hi)) hw' hk) h3
    have e : (L.push false).setIfInBounds i true = (L.setIfInBounds i true).push false := by
     apply Array.ext_getElem?
     intro j
     by_cases hj : j = i
     ·subst hj
      rw [Array.getElem?_setIfInBounds_self_of_lt (by simp; omega), Array.getElem?_push_lt (by simp; omega)]
      simp
     ·rw [Array.getElem?_setIfInBounds_ne (by omega), Array.getElem?_push, Array.getElem?_push, Array.getElem?_setIfInBounds_ne (by omega)]
      simp
    rw [e]
    obtain ⟨x, hx⟩ : ∃ x, l[i]? = some x := ⟨_, List.getElem?_eq_getElem (by omega)⟩
    have hb : x.guard = none := h.bare x (List.mem_of_getElem? hx)
    have w1 : ∀ y, Region.wanted x y = true := fun y => by unfold Region.wanted; rw [hb]
    have e1 : (l.take n).toArray[i]? = some x := by simp [h2, hx]
    have e2 : l.toArray[i]? = some x := by simp [hx]
    unfold wpOp at h4 ⊢
    simp only [e1, w1, if_true] at h4
    simp only [e2, w1, if_true]
    exact h4
   ·have hall := (last_ready h L hL hc).1 hi
    have hr : Region.ready .any (l.take i).toArray L = [] := by
     rw [List.eq_nil_iff_forall_not_mem]
     intro j hj
     obtain ⟨h1, x, hx, _⟩ := mem_ready.1 hj
     have hlt := (Array.getElem?_eq_some_iff.1 hx).1
     simp at hlt
     rw [in_both (by omega), hall j (by omega)] at h1
     cases h1
    exact last_op h L hL hall (hq.1 hr w hC) (f + 1)
end
theorem rep_false (m j : Nat) : (Array.replicate m false).getD j false = false := by
 simp only [Array.getD_eq_getD_getElem?, Array.getElem?_replicate]
 split <;> rfl
theorem wp_region_last {id : Nat} {Q : Exit → Act → World → Prop} {a : Act} {w : World} {l : List Oper} {α : Type} (n : Nat) {o : Oper} (f : α → World) (hm : P.follows .mixedOrders = true) (hB : lastB l n = true) (hB' : Region.lexB .any (l.take n).toArray = true) (hl : l.length = n + 1) (ho : l[n]? = some o)
  (p0 : α) (h0 : f p0 = w.drew) (h : wpQuiet P (l.take n).toArray (fun w' => ∃ p, w' = f p) (fun a' => ∀ w', (∃ p, w' = f p) → wpList P l.toArray Q [o] a' w') (l.take n) a) : (Code.region id l.toArray true).wp P Q a w := by
 refine wp_region_any hm ?_
 simp only [Region.lexB, Bool.and_eq_true] at hB'
 have hn : (l.take n).length = n := by simp; omega
 have H := wpAnyQ_lex (C := fun w' => ∃ p, w' = f p) (md := .any) hB'.1 (l.take n) 0 (Array.replicate (l.take n).length false) a (by simp) (by simpa using hB'.2) h
 have H2 := wp_to_last (P := P) (Q := Q) (lastOk hB hl ho) (l.take n).length (Array.replicate (l.take n).length false) a w.drew (by simp; omega) (fun j x _ _ hl => by rw [rep_false] at hl; cases hl) ⟨p0, h0.symm⟩ H
 rw [hn] at H2
 have e : Array.replicate l.toArray.size false = (Array.replicate n false).push false := by
  simp [hl, Array.replicate_succ]
 rw [e, show l.toArray.size = n + 1 by simp [hl]]
 exact H2
end
end Go.Proofs.YthhcecllejddeaaGreatDoor

namespace Go.Proofs.YthhcecllejddeaaGreatDoor
open Go.RowKit
def limT : List Int := [1, 256, 2, 1, 64, 1, 0, 8, 1, 0, 4096, 2]
def Lim (w : World) : Prop := ∀ i, i < 12 → w.cell? ⟨0, i, none⟩ = some (.int .i64 (limT.getD i 0))
theorem Lim.kept {w w' : World} (h : Lim w) (hb : Below w.heap.size w w') : Lim w' := fun i hi => (hb.cell (World.block_lt_of_cell? w _ (h i hi))).trans (h i hi)
theorem Lim.mod {w w' : World} {S : Nat → Prop} (h : Lim w) (hm : Mod S w w') (hs : ¬ S 0) : Lim w' := fun i hi => by
 have hc := h i hi
 rw [hm.cell (p := ⟨0, i, none⟩) (World.block_lt_of_cell? w _ hc) hs]
 exact hc
def limF : Nat → Nat → Int
 | 0 => fun n => rngE 1 256 n
 | 1 => fun n => rngE 1 64 n
 | 2 => fun n => rngE 0 8 n
 | _ => fun n => rngE 0 4096 n
def limB : Nat → Nat
 | 0 => 2
 | 1 => 1
 | 2 => 1
 | _ => 2
def stN (bs : List Nat) (s : St) : Nat → St
 | 0 => s
 | i + 1 => (chkS bs (limB i) (limF i) (stN bs s i)).2
def vaN (bs : List Nat) (s : St) (i : Nat) : Nat := (chkS bs (limB i) (limF i) (stN bs s i)).1
def cvN (bs : List Nat) (s : St) (i j : Nat) : Int := if j < i then (vaN bs s j : Nat) else 0
structure OneW (w : World) where
 val : World
 is : val = w
section
variable {w : World} {r : Nat} {a : Option Addr} {cap : Nat} {bs : List Nat} {s : St}
set_option maxRecDepth 100000 in
set_option maxHeartbeats 4000000 in
theorem numbers_any (h : RdAt w r a cap bs s) (hL : Lim w) :
  Calls Tryz.prog 63 #[.pointer (some ⟨r, 0, none⟩)] w fun e w' => e = .returned (.tuple #[.int .i64 (vaN bs s 0 : Nat), .int .i64 (vaN bs s 1 : Nat), .int .i64 (vaN bs s 2 : Nat), .int .i64 (vaN bs s 3 : Nat)]) ∧ ROut w r a cap bs (stN bs s 4) w' := by
 have H := hd h
 have hb0 := below_al w (.cells #[.int .i64 0, .int .i64 0, .int .i64 0, .int .i64 0] 116)
 have l0 := (hL.kept hb0) 0 (by omega)
 have l1 := (hL.kept hb0) 1 (by omega)
 have l2 := (hL.kept hb0) 2 (by omega)
 have l3 := (hL.kept hb0) 3 (by omega)
 have l4 := (hL.kept hb0) 4 (by omega)
 have l5 := (hL.kept hb0) 5 (by omega)
 have l6 := (hL.kept hb0) 6 (by omega)
 have l7 := (hL.kept hb0) 7 (by omega)
 have l8 := (hL.kept hb0) 8 (by omega)
 have l9 := (hL.kept hb0) 9 (by omega)
 have l10 := (hL.kept hb0) 10 (by omega)
 have l11 := (hL.kept hb0) 11 (by omega)
 simp only [limT, List.getD_cons_zero, List.getD_cons_succ] at l0 l1 l2 l3 l4 l5 l6 l7 l8 l9 l10 l11
 clear h hL
 go_enter Tryz.func63, Tryz.ntmps63
 go_upto_block 0 with fail
 obtain ⟨w0, hw0⟩ : ∃ W, Hid (w.alloc (.cells #[.int .i64 0, .int .i64 0, .int .i64 0, .int .i64 0] 116) = W) := ⟨_, rfl⟩
 rw [hw0.out]
 obtain ⟨G, hG⟩ : ∃ G, Hid (w.heap.size = G) := ⟨_, rfl⟩
 rw [hG.out]
 have HI : Hid (ROut w r a cap bs (stN bs s 0) w0 ∧ w0.heap[G]? = some (.cells #[.int .i64 (cvN bs s 0 0), .int .i64 (cvN bs s 0 1), .int .i64 (cvN bs s 0 2), .int .i64 (cvN bs s 0 3)] 116 (0, 0))) := hd (by
  rw [← hw0.out, ← hG.out]
  exact ⟨⟨H.out.below hb0, Mod.of_below _ hb0⟩, heap_alloc_new w _⟩)
 clear hb0 hw0 l0 l1 l2 l3 l4 l5 l6 l7 l8 l9 l10 l11
 have hrG : r < G := by rw [← hG.out]; exact H.out.lt
 go_wp2_with fail
 go_loopg [7, 8, 10, 11, 12, 13, 14, 15, 16, 17, 18, 19, 20, 21, 22, 23, 24, 25, 26, 27, 28, 29, 30, 31, 32, 33, 34] 4 (fun g v7 v8 v10 v11 v12 v13 v14 v15 v16 v17 v18 v19 v20 v21 v22 v23 v24 v25 v26 v27 v28 v29 v30 v31 v32 v33 v34 wr => ∃ i : Nat, i + g = 4 ∧ v10 = .int .i64 (i : Int) ∧ Hid (ROut w r a cap bs (stN bs s i) wr ∧ wr.heap[G]? = some (.cells #[.int .i64 (cvN bs s i 0), .int .i64 (cvN bs s i 1), .int .i64 (cvN bs s i 2), .int .i64 (cvN bs s i 3)] 116 (0, 0))))
 case atStart => exact ⟨0, by omega, by go_num, HI⟩
 case round =>
  obtain ⟨i, hi, rfl, HW⟩ := hrel
  clear HI
  have hc : i = 0 ∨ i = 1 ∨ i = 2 ∨ i = 3 ∨ i = 4 := by omega
  rcases hc with rfl | rfl | rfl | rfl | rfl
  ·obtain rfl : gk = 4 := by omega
   have ix : ∀ W, (Instr.index 137 (.agg #[.int .i64 1, .int .i64 256, .int .i64 2, .int .i64 1, .int .i64 64, .int .i64 1, .int .i64 0, .int .i64 8, .int .i64 1, .int .i64 0, .int .i64 4096, .int .i64 2]) (.int .i64 0)).run Tryz.prog W = .ok (.agg #[.int .i64 1, .int .i64 256, .int .i64 2]) W := fun W => by kernel_rfl
   go_upto_region 5 with fail
   clear ix
   obtain ⟨wa, hwa⟩ : ∃ W, Hid (wr.alloc (.cells #[.int .i64 1, .int .i64 256, .int .i64 2] 136) = W) := ⟨_, rfl⟩
   rw [hwa.out]
   have hba : Below wr.heap.size wr wa := by rw [← hwa.out]; exact below_al wr _
   have HB : Hid (wa.heap[wr.heap.size]? = some (.cells #[.int .i64 1, .int .i64 256, .int .i64 2] 136 (0, 0))) := hd (by rw [← hwa.out]; exact heap_alloc_new wr _)
   have hgl := (Array.getElem?_eq_some_iff.1 HW.out.2).1
   have HG : Hid (wa.heap[G]? = some (.cells #[.int .i64 (cvN bs s 0 0), .int .i64 (cvN bs s 0 1), .int .i64 (cvN bs s 0 2), .int .i64 (cvN bs s 0 3)] 116 (0, 0))) := hd (by rw [hba.block G hgl]; exact HW.out.2)
   have O1 : Hid (ROut w r a cap bs (stN bs s 0) wa) := hd (HW.out.1.after hba)
   have hrw := HW.out.1.1.lt
   obtain ⟨B, hB⟩ : ∃ B, Hid (wr.heap.size = B) := ⟨_, rfl⟩
   rw [hB.out] at HB hgl hrw ⊢
   clear hwa hba hB HW
   have x2 := cell_of_row wa B 2 _ _ _ HB.out
   simp at x2
   have hs := small_any O1.out.1 2 ⟨by omega, by omega⟩
   have HN : Hid (∀ W1 W2, ROut wa r a cap bs (numS bs 2 (stN bs s 0)).2 W1 → ROut (W1.setCell ⟨G, 0, none⟩ (.int .i64 ((numS bs 2 (stN bs s 0)).1 : Nat))) r a cap bs (failS (numS bs 2 (stN bs s 0)).2 (rngE 1 256 ((numS bs 2 (stN bs s 0)).1 : Nat)) (numS bs 2 (stN bs s 0)).2.fr) W2 → ROut w r a cap bs (stN bs s 1) W2 ∧ W2.heap[G]? = some (.cells #[.int .i64 (cvN bs s 1 0), .int .i64 (cvN bs s 1 1), .int .i64 (cvN bs s 1 2), .int .i64 (cvN bs s 1 3)] 116 (0, 0))) := hd (by
    intro W1 W2 o1 o2
    have o3 := (O1.out.trans o1).put H.out (Nat.le_of_eq hG.out) 0 (.int .i64 ((numS bs 2 (stN bs s 0)).1 : Nat))
    refine ⟨o3.trans o2, ?_⟩
    have e1 : W1.heap[G]? = _ := (o1.2.block G (Array.getElem?_eq_some_iff.1 HG.out).1 (by omega)).trans HG.out
    have e2 := heap_setCell_same W1 G 0 _ _ (.int .i64 ((numS bs 2 (stN bs s 0)).1 : Nat)) e1
    rw [o2.2.block G (Array.getElem?_eq_some_iff.1 e2).1 (by omega), e2]
    rfl)
   have HK : Hid (∀ W1, ROut wa r a cap bs (numS bs 2 (stN bs s 0)).2 W1 → W1.heap[G]? = some (.cells #[.int .i64 (cvN bs s 0 0), .int .i64 (cvN bs s 0 1), .int .i64 (cvN bs s 0 2), .int .i64 (cvN bs s 0 3)] 116 (0, 0)) ∧ W1.heap[B]? = some (.cells #[.int .i64 1, .int .i64 256, .int .i64 2] 136 (0, 0)) ∧ ROut w r a cap bs (numS bs 2 (stN bs s 0)).2 W1) := hd (by
    intro W1 o1
    exact ⟨(o1.2.block G (Array.getElem?_eq_some_iff.1 HG.out).1 (by omega)).trans HG.out, (o1.2.block B (Array.getElem?_eq_some_iff.1 HB.out).1 (by omega)).trans HB.out, O1.out.trans o1⟩)
   have hlt := numS_lt (s := stN bs s 0) O1.out.1.byte 2 (by omega)
   have hwi := within_any ((numS bs 2 (stN bs s 0)).1 : Nat) 1 256
   clear HB HG O1
   generalize rngE 1 256 ((numS bs 2 (stN bs s 0)).1 : Nat) = E at *
   generalize (numS bs 2 (stN bs s 0)).1 = v at *
   generalize (numS bs 2 (stN bs s 0)).2 = s1 at *
   have hf : Hid (∀ W1, ROut wa r a cap bs s1 W1 → (∀ n, W1.cell? ⟨G, n, none⟩ = (#[.int .i64 (cvN bs s 0 0), .int .i64 (cvN bs s 0 1), .int .i64 (cvN bs s 0 2), .int .i64 (cvN bs s 0 3)] : Array Value)[n]? ∧ W1.frozen? ⟨G, n, none⟩ = false)) := hd (fun W1 o1 n => ⟨cell_of_row _ _ _ _ _ _ (HK.out W1 o1).1, by simp [World.frozen?, (HK.out W1 o1).1]⟩)
   go_upto_region 6 with (go_at_call 97; refine hs.mono ?_; rintro e w1 ⟨rfl, o1⟩; have g0 := ((hf.out w1 o1) 0).1; have g1 := ((hf.out w1 o1) 0).2; replace o1 := hd o1; simp at g0)
   obtain ⟨w2, hw2⟩ : ∃ W, Hid (w1.setCell ⟨G, 0, none⟩ (.int .i64 (v : Int)) = W) := ⟨_, rfl⟩
   rw [hw2.out]
   have o2 : ROut w r a cap bs s1 w2 := by rw [← hw2.out]; exact (HK.out w1 o1.out).2.2.put H.out (Nat.le_of_eq hG.out) _ _
   have y0 : w2.cell? ⟨G, 0, none⟩ = some (.int .i64 (v : Int)) := by
    rw [← hw2.out, cell_of_row _ _ _ _ _ _ (heap_setCell_same w1 G 0 _ _ _ (HK.out w1 o1.out).1)]
    rfl
   have hB2 : w2.heap[B]? = some (.cells #[.int .i64 1, .int .i64 256, .int .i64 2] 136 (0, 0)) := by
    rw [← hw2.out, Below.heap_setCell _ _ _ _ (by simp only; omega)]
    exact (HK.out w1 o1.out).2.1
   have y1 := cell_of_row w2 B 0 _ _ _ hB2
   have y2 := cell_of_row w2 B 1 _ _ _ hB2
   simp at y1 y2
   have y3 := o2.1.cells.2.1
   have hfl : Calls Tryz.prog 98 #[.pointer (some ⟨r, 0, none⟩), .int .i64 E, .int .i64 s1.fr] w2.drew fun e w' => e = .returned (.tuple #[]) ∧ ROut w2 r a cap bs (failS s1 E s1.fr) w' :=
    (fail_any (o2.1.below (below_draw w2 1)) E s1.fr).mono fun e w' ⟨he, ho⟩ => ⟨he, ho.1, (Mod.of_below _ (below_draw w2 1)).trans ho.2 (fun _ h => .inl h)⟩
   have HN2 : Hid (∀ W2, ROut w2 r a cap bs (failS s1 E s1.fr) W2 → _) := hd (fun W2 ho => HN.out w1 W2 o1.out (by rw [hw2.out]; exact ho))
   clear HN HK hf o1 hw2 o2 hB2 g0 g1
   have z0 : ∀ p : OneW w2.drew, p.val.cell? ⟨G, 0, none⟩ = some (.int .i64 (v : Int)) := fun p => by rw [p.is]; exact y0
   have z1 : ∀ p : OneW w2.drew, p.val.cell? ⟨B, 0, none⟩ = some (.int .i64 1) := fun p => by rw [p.is]; exact y1
   have z2 : ∀ p : OneW w2.drew, p.val.cell? ⟨B, 1, none⟩ = some (.int .i64 256) := fun p => by rw [p.is]; exact y2
   have z3 : ∀ p : OneW w2.drew, p.val.cell? ⟨r, 1, none⟩ = some (.int .i64 s1.fr) := fun p => by rw [p.is]; exact y3
   have q1 : ∀ p : OneW w2.drew, Calls Tryz.prog 70 #[.int .i64 (v : Int), .int .i64 1, .int .i64 256] p.val fun e w'' => e = .returned (.int .i64 E) ∧ ∃ p' : OneW w2.drew, w'' = p'.val := fun p => (hwi p.val).mono fun e w' ⟨he, hw⟩ => ⟨he, p, hw⟩
   have nek : Nonempty (OneW w2.drew) := ⟨⟨w2.drew, rfl⟩⟩
   clear hwi y0 y1 y2 y3
   refine wp_region_last (α := OneW w2.drew) 13 OneW.val (by kernel_rfl) (by kernel_rfl) (by kernel_rfl) rfl rfl ⟨w2.drew, rfl⟩ rfl ?_
   simp only [List.take_succ_cons, List.take_zero]
   repeat (go_big_quiet_step (first | with_reducible exact q1 _))
   refine wpQuiet_nil ?_
   rintro w' ⟨p, rfl⟩
   rw [p.is]
   clear z0 z1 z2 z3 q1 nek
   go_wp2_with (go_at_call 98; refine hfl.mono ?_; rintro e wx ⟨rfl, ox⟩)
   go_roundg 3
   case rel => exact ⟨1, by omega, rfl, hd (HN2.out wx ox)⟩
   case measure => omega
  ·obtain rfl : gk = 3 := by omega
   have ix : ∀ W, (Instr.index 137 (.agg #[.int .i64 1, .int .i64 256, .int .i64 2, .int .i64 1, .int .i64 64, .int .i64 1, .int .i64 0, .int .i64 8, .int .i64 1, .int .i64 0, .int .i64 4096, .int .i64 2]) (.int .i64 1)).run Tryz.prog W = .ok (.agg #[.int .i64 1, .int .i64 64, .int .i64 1]) W := fun W => by kernel_rfl
   go_upto_region 5 with fail
   clear ix
   obtain ⟨wa, hwa⟩ : ∃ W, Hid (wr.alloc (.cells #[.int .i64 1, .int .i64 64, .int .i64 1] 136) = W) := ⟨_, rfl⟩
   rw [hwa.out]
   have hba : Below wr.heap.size wr wa := by rw [← hwa.out]; exact below_al wr _
   have HB : Hid (wa.heap[wr.heap.size]? = some (.cells #[.int .i64 1, .int .i64 64, .int .i64 1] 136 (0, 0))) := hd (by rw [← hwa.out]; exact heap_alloc_new wr _)
   have hgl := (Array.getElem?_eq_some_iff.1 HW.out.2).1
   have HG : Hid (wa.heap[G]? = some (.cells #[.int .i64 (cvN bs s 1 0), .int .i64 (cvN bs s 1 1), .int .i64 (cvN bs s 1 2), .int .i64 (cvN bs s 1 3)] 116 (0, 0))) := hd (by rw [hba.block G hgl]; exact HW.out.2)
   have O1 : Hid (ROut w r a cap bs (stN bs s 1) wa) := hd (HW.out.1.after hba)
   have hrw := HW.out.1.1.lt
   obtain ⟨B, hB⟩ : ∃ B, Hid (wr.heap.size = B) := ⟨_, rfl⟩
   rw [hB.out] at HB hgl hrw ⊢
   clear hwa hba hB HW
   have x2 := cell_of_row wa B 2 _ _ _ HB.out
   simp at x2
   have hs := small_any O1.out.1 1 ⟨by omega, by omega⟩
   have HN : Hid (∀ W1 W2, ROut wa r a cap bs (numS bs 1 (stN bs s 1)).2 W1 → ROut (W1.setCell ⟨G, 1, none⟩ (.int .i64 ((numS bs 1 (stN bs s 1)).1 : Nat))) r a cap bs (failS (numS bs 1 (stN bs s 1)).2 (rngE 1 64 ((numS bs 1 (stN bs s 1)).1 : Nat)) (numS bs 1 (stN bs s 1)).2.fr) W2 → ROut w r a cap bs (stN bs s 2) W2 ∧ W2.heap[G]? = some (.cells #[.int .i64 (cvN bs s 2 0), .int .i64 (cvN bs s 2 1), .int .i64 (cvN bs s 2 2), .int .i64 (cvN bs s 2 3)] 116 (0, 0))) := hd (by
    intro W1 W2 o1 o2
    have o3 := (O1.out.trans o1).put H.out (Nat.le_of_eq hG.out) 1 (.int .i64 ((numS bs 1 (stN bs s 1)).1 : Nat))
    refine ⟨o3.trans o2, ?_⟩
    have e1 : W1.heap[G]? = _ := (o1.2.block G (Array.getElem?_eq_some_iff.1 HG.out).1 (by omega)).trans HG.out
    have e2 := heap_setCell_same W1 G 1 _ _ (.int .i64 ((numS bs 1 (stN bs s 1)).1 : Nat)) e1
    rw [o2.2.block G (Array.getElem?_eq_some_iff.1 e2).1 (by omega), e2]
    rfl)
   have HK : Hid (∀ W1, ROut wa r a cap bs (numS bs 1 (stN bs s 1)).2 W1 → W1.heap[G]? = some (.cells #[.int .i64 (cvN bs s 1 0), .int .i64 (cvN bs s 1 1), .int .i64 (cvN bs s 1 2), .int .i64 (cvN bs s 1 3)] 116 (0, 0)) ∧ W1.heap[B]? = some (.cells #[.int .i64 1, .int .i64 64, .int .i64 1] 136 (0, 0)) ∧ ROut w r a cap bs (numS bs 1 (stN bs s 1)).2 W1) := hd (by
    intro W1 o1
    exact ⟨(o1.2.block G (Array.getElem?_eq_some_iff.1 HG.out).1 (by omega)).trans HG.out, (o1.2.block B (Array.getElem?_eq_some_iff.1 HB.out).1 (by omega)).trans HB.out, O1.out.trans o1⟩)
   have hlt := numS_lt (s := stN bs s 1) O1.out.1.byte 1 (by omega)
   have hwi := within_any ((numS bs 1 (stN bs s 1)).1 : Nat) 1 64
   clear HB HG O1
   generalize rngE 1 64 ((numS bs 1 (stN bs s 1)).1 : Nat) = E at *
   generalize (numS bs 1 (stN bs s 1)).1 = v at *
   generalize (numS bs 1 (stN bs s 1)).2 = s1 at *
   have hf : Hid (∀ W1, ROut wa r a cap bs s1 W1 → (∀ n, W1.cell? ⟨G, n, none⟩ = (#[.int .i64 (cvN bs s 1 0), .int .i64 (cvN bs s 1 1), .int .i64 (cvN bs s 1 2), .int .i64 (cvN bs s 1 3)] : Array Value)[n]? ∧ W1.frozen? ⟨G, n, none⟩ = false)) := hd (fun W1 o1 n => ⟨cell_of_row _ _ _ _ _ _ (HK.out W1 o1).1, by simp [World.frozen?, (HK.out W1 o1).1]⟩)
   go_upto_region 6 with (go_at_call 97; refine hs.mono ?_; rintro e w1 ⟨rfl, o1⟩; have g0 := ((hf.out w1 o1) 1).1; have g1 := ((hf.out w1 o1) 1).2; replace o1 := hd o1; simp at g0)
   obtain ⟨w2, hw2⟩ : ∃ W, Hid (w1.setCell ⟨G, 1, none⟩ (.int .i64 (v : Int)) = W) := ⟨_, rfl⟩
   rw [hw2.out]
   have o2 : ROut w r a cap bs s1 w2 := by rw [← hw2.out]; exact (HK.out w1 o1.out).2.2.put H.out (Nat.le_of_eq hG.out) _ _
   have y0 : w2.cell? ⟨G, 1, none⟩ = some (.int .i64 (v : Int)) := by
    rw [← hw2.out, cell_of_row _ _ _ _ _ _ (heap_setCell_same w1 G 1 _ _ _ (HK.out w1 o1.out).1)]
    rfl
   have hB2 : w2.heap[B]? = some (.cells #[.int .i64 1, .int .i64 64, .int .i64 1] 136 (0, 0)) := by
    rw [← hw2.out, Below.heap_setCell _ _ _ _ (by simp only; omega)]
    exact (HK.out w1 o1.out).2.1
   have y1 := cell_of_row w2 B 0 _ _ _ hB2
   have y2 := cell_of_row w2 B 1 _ _ _ hB2
   simp at y1 y2
   have y3 := o2.1.cells.2.1
   have hfl : Calls Tryz.prog 98 #[.pointer (some ⟨r, 0, none⟩), .int .i64 E, .int .i64 s1.fr] w2.drew fun e w' => e = .returned (.tuple #[]) ∧ ROut w2 r a cap bs (failS s1 E s1.fr) w' :=
    (fail_any (o2.1.below (below_draw w2 1)) E s1.fr).mono fun e w' ⟨he, ho⟩ => ⟨he, ho.1, (Mod.of_below _ (below_draw w2 1)).trans ho.2 (fun _ h => .inl h)⟩
   have HN2 : Hid (∀ W2, ROut w2 r a cap bs (failS s1 E s1.fr) W2 → _) := hd (fun W2 ho => HN.out w1 W2 o1.out (by rw [hw2.out]; exact ho))
   clear HN HK hf o1 hw2 o2 hB2 g0 g1
   have z0 : ∀ p : OneW w2.drew, p.val.cell? ⟨G, 1, none⟩ = some (.int .i64 (v : Int)) := fun p => by rw [p.is]; exact y0
   have z1 : ∀ p : OneW w2.drew, p.val.cell? ⟨B, 0, none⟩ = some (.int .i64 1) := fun p => by rw [p.is]; exact y1
   have z2 : ∀ p : OneW w2.drew, p.val.cell? ⟨B, 1, none⟩ = some (.int .i64 64) := fun p => by rw [p.is]; exact y2
   have z3 : ∀ p : OneW w2.drew, p.val.cell? ⟨r, 1, none⟩ = some (.int .i64 s1.fr) := fun p => by rw [p.is]; exact y3
   have q1 : ∀ p : OneW w2.drew, Calls Tryz.prog 70 #[.int .i64 (v : Int), .int .i64 1, .int .i64 64] p.val fun e w'' => e = .returned (.int .i64 E) ∧ ∃ p' : OneW w2.drew, w'' = p'.val := fun p => (hwi p.val).mono fun e w' ⟨he, hw⟩ => ⟨he, p, hw⟩
   have nek : Nonempty (OneW w2.drew) := ⟨⟨w2.drew, rfl⟩⟩
   clear hwi y0 y1 y2 y3
   refine wp_region_last (α := OneW w2.drew) 13 OneW.val (by kernel_rfl) (by kernel_rfl) (by kernel_rfl) rfl rfl ⟨w2.drew, rfl⟩ rfl ?_
   simp only [List.take_succ_cons, List.take_zero]
   repeat (go_big_quiet_step (first | with_reducible exact q1 _))
   refine wpQuiet_nil ?_
   rintro w' ⟨p, rfl⟩
   rw [p.is]
   clear z0 z1 z2 z3 q1 nek
   go_wp2_with (go_at_call 98; refine hfl.mono ?_; rintro e wx ⟨rfl, ox⟩)
   go_roundg 2
   case rel => exact ⟨2, by omega, rfl, hd (HN2.out wx ox)⟩
   case measure => omega
  ·obtain rfl : gk = 2 := by omega
   have ix : ∀ W, (Instr.index 137 (.agg #[.int .i64 1, .int .i64 256, .int .i64 2, .int .i64 1, .int .i64 64, .int .i64 1, .int .i64 0, .int .i64 8, .int .i64 1, .int .i64 0, .int .i64 4096, .int .i64 2]) (.int .i64 2)).run Tryz.prog W = .ok (.agg #[.int .i64 0, .int .i64 8, .int .i64 1]) W := fun W => by kernel_rfl
   go_upto_region 5 with fail
   clear ix
   obtain ⟨wa, hwa⟩ : ∃ W, Hid (wr.alloc (.cells #[.int .i64 0, .int .i64 8, .int .i64 1] 136) = W) := ⟨_, rfl⟩
   rw [hwa.out]
   have hba : Below wr.heap.size wr wa := by rw [← hwa.out]; exact below_al wr _
   have HB : Hid (wa.heap[wr.heap.size]? = some (.cells #[.int .i64 0, .int .i64 8, .int .i64 1] 136 (0, 0))) := hd (by rw [← hwa.out]; exact heap_alloc_new wr _)
   have hgl := (Array.getElem?_eq_some_iff.1 HW.out.2).1
   have HG : Hid (wa.heap[G]? = some (.cells #[.int .i64 (cvN bs s 2 0), .int .i64 (cvN bs s 2 1), .int .i64 (cvN bs s 2 2), .int .i64 (cvN bs s 2 3)] 116 (0, 0))) := hd (by rw [hba.block G hgl]; exact HW.out.2)
   have O1 : Hid (ROut w r a cap bs (stN bs s 2) wa) := hd (HW.out.1.after hba)
   have hrw := HW.out.1.1.lt
   obtain ⟨B, hB⟩ : ∃ B, Hid (wr.heap.size = B) := ⟨_, rfl⟩
   rw [hB.out] at HB hgl hrw ⊢
   clear hwa hba hB HW
   have x2 := cell_of_row wa B 2 _ _ _ HB.out
   simp at x2
   have hs := small_any O1.out.1 1 ⟨by omega, by omega⟩
   have HN : Hid (∀ W1 W2, ROut wa r a cap bs (numS bs 1 (stN bs s 2)).2 W1 → ROut (W1.setCell ⟨G, 2, none⟩ (.int .i64 ((numS bs 1 (stN bs s 2)).1 : Nat))) r a cap bs (failS (numS bs 1 (stN bs s 2)).2 (rngE 0 8 ((numS bs 1 (stN bs s 2)).1 : Nat)) (numS bs 1 (stN bs s 2)).2.fr) W2 → ROut w r a cap bs (stN bs s 3) W2 ∧ W2.heap[G]? = some (.cells #[.int .i64 (cvN bs s 3 0), .int .i64 (cvN bs s 3 1), .int .i64 (cvN bs s 3 2), .int .i64 (cvN bs s 3 3)] 116 (0, 0))) := hd (by
    intro W1 W2 o1 o2
    have o3 := (O1.out.trans o1).put H.out (Nat.le_of_eq hG.out) 2 (.int .i64 ((numS bs 1 (stN bs s 2)).1 : Nat))
    refine ⟨o3.trans o2, ?_⟩
    have e1 : W1.heap[G]? = _ := (o1.2.block G (Array.getElem?_eq_some_iff.1 HG.out).1 (by omega)).trans HG.out
    have e2 := heap_setCell_same W1 G 2 _ _ (.int .i64 ((numS bs 1 (stN bs s 2)).1 : Nat)) e1
    rw [o2.2.block G (Array.getElem?_eq_some_iff.1 e2).1 (by omega), e2]
    rfl)
   have HK : Hid (∀ W1, ROut wa r a cap bs (numS bs 1 (stN bs s 2)).2 W1 → W1.heap[G]? = some (.cells #[.int .i64 (cvN bs s 2 0), .int .i64 (cvN bs s 2 1), .int .i64 (cvN bs s 2 2), .int .i64 (cvN bs s 2 3)] 116 (0, 0)) ∧ W1.heap[B]? = some (.cells #[.int .i64 0, .int .i64 8, .int .i64 1] 136 (0, 0)) ∧ ROut w r a cap bs (numS bs 1 (stN bs s 2)).2 W1) := hd (by
    intro W1 o1
    exact ⟨(o1.2.block G (Array.getElem?_eq_some_iff.1 HG.out).1 (by omega)).trans HG.out, (o1.2.block B (Array.getElem?_eq_some_iff.1 HB.out).1 (by omega)).trans HB.out, O1.out.trans o1⟩)
   have hlt := numS_lt (s := stN bs s 2) O1.out.1.byte 1 (by omega)
   have hwi := within_any ((numS bs 1 (stN bs s 2)).1 : Nat) 0 8
   clear HB HG O1
   generalize rngE 0 8 ((numS bs 1 (stN bs s 2)).1 : Nat) = E at *
   generalize (numS bs 1 (stN bs s 2)).1 = v at *
   generalize (numS bs 1 (stN bs s 2)).2 = s1 at *
   have hf : Hid (∀ W1, ROut wa r a cap bs s1 W1 → (∀ n, W1.cell? ⟨G, n, none⟩ = (#[.int .i64 (cvN bs s 2 0), .int .i64 (cvN bs s 2 1), .int .i64 (cvN bs s 2 2), .int .i64 (cvN bs s 2 3)] : Array Value)[n]? ∧ W1.frozen? ⟨G, n, none⟩ = false)) := hd (fun W1 o1 n => ⟨cell_of_row _ _ _ _ _ _ (HK.out W1 o1).1, by simp [World.frozen?, (HK.out W1 o1).1]⟩)
   go_upto_region 6 with (go_at_call 97; refine hs.mono ?_; rintro e w1 ⟨rfl, o1⟩; have g0 := ((hf.out w1 o1) 2).1; have g1 := ((hf.out w1 o1) 2).2; replace o1 := hd o1; simp at g0)
   obtain ⟨w2, hw2⟩ : ∃ W, Hid (w1.setCell ⟨G, 2, none⟩ (.int .i64 (v : Int)) = W) := ⟨_, rfl⟩
   rw [hw2.out]
   have o2 : ROut w r a cap bs s1 w2 := by rw [← hw2.out]; exact (HK.out w1 o1.out).2.2.put H.out (Nat.le_of_eq hG.out) _ _
   have y0 : w2.cell? ⟨G, 2, none⟩ = some (.int .i64 (v : Int)) := by
    rw [← hw2.out, cell_of_row _ _ _ _ _ _ (heap_setCell_same w1 G 2 _ _ _ (HK.out w1 o1.out).1)]
    rfl
   have hB2 : w2.heap[B]? = some (.cells #[.int .i64 0, .int .i64 8, .int .i64 1] 136 (0, 0)) := by
    rw [← hw2.out, Below.heap_setCell _ _ _ _ (by simp only; omega)]
    exact (HK.out w1 o1.out).2.1
   have y1 := cell_of_row w2 B 0 _ _ _ hB2
   have y2 := cell_of_row w2 B 1 _ _ _ hB2
   simp at y1 y2
   have y3 := o2.1.cells.2.1
   have hfl : Calls Tryz.prog 98 #[.pointer (some ⟨r, 0, none⟩), .int .i64 E, .int .i64 s1.fr] w2.drew fun e w' => e = .returned (.tuple #[]) ∧ ROut w2 r a cap bs (failS s1 E s1.fr) w' :=
    (fail_any (o2.1.below (below_draw w2 1)) E s1.fr).mono fun e w' ⟨he, ho⟩ => ⟨he, ho.1, (Mod.of_below _ (below_draw w2 1)).trans ho.2 (fun _ h => .inl h)⟩
   have HN2 : Hid (∀ W2, ROut w2 r a cap bs (failS s1 E s1.fr) W2 → _) := hd (fun W2 ho => HN.out w1 W2 o1.out (by rw [hw2.out]; exact ho))
   clear HN HK hf o1 hw2 o2 hB2 g0 g1
   have z0 : ∀ p : OneW w2.drew, p.val.cell? ⟨G, 2, none⟩ = some (.int .i64 (v : Int)) := fun p => by rw [p.is]; exact y0
   have z1 : ∀ p : OneW w2.drew, p.val.cell? ⟨B, 0, none⟩ = some (.int .i64 0) := fun p => by rw [p.is]; exact y1
   have z2 : ∀ p : OneW w2.drew, p.val.cell? ⟨B, 1, none⟩ = some (.int .i64 8) := fun p => by rw [p.is]; exact y2
   have z3 : ∀ p : OneW w2.drew, p.val.cell? ⟨r, 1, none⟩ = some (.int .i64 s1.fr) := fun p => by rw [p.is]; exact y3
   have q1 : ∀ p : OneW w2.drew, Calls Tryz.prog 70 #[.int .i64 (v : Int), .int .i64 0, .int .i64 8] p.val fun e w'' => e = .returned (.int .i64 E) ∧ ∃ p' : OneW w2.drew, w'' = p'.val := fun p => (hwi p.val).mono fun e w' ⟨he, hw⟩ => ⟨he, p, hw⟩
   have nek : Nonempty (OneW w2.drew) := ⟨⟨w2.drew, rfl⟩⟩
   clear hwi y0 y1 y2 y3
   refine wp_region_last (α := OneW w2.drew) 13 OneW.val (by kernel_rfl) (by kernel_rfl) (by kernel_rfl) rfl rfl ⟨w2.drew, rfl⟩ rfl ?_
   simp only [List.take_succ_cons, List.take_zero]
   repeat (go_big_quiet_step (first | with_reducible exact q1 _))
   refine wpQuiet_nil ?_
   rintro w' ⟨p, rfl⟩
   rw [p.is]
   clear z0 z1 z2 z3 q1 nek
   go_wp2_with (go_at_call 98; refine hfl.mono ?_; rintro e wx ⟨rfl, ox⟩)
   go_roundg 1
   case rel => exact ⟨3, by omega, rfl, hd (HN2.out wx ox)⟩
   case measure => omega
  ·obtain rfl : gk = 1 := by omega
   have ix : ∀ W, (Instr.index 137 (.agg #[.int .i64 1, .int .i64 256, .int .i64 2, .int .i64 1, .int .i64 64, .int .i64 1, .int .i64 0, .int .i64 8, .int .i64 1, .int .i64 0, .int .i64 4096, .int .i64 2]) (.int .i64 3)).run Tryz.prog W = .ok (.agg #[.int .i64 0, .int .i64 4096, .int .i64 2]) W := fun W => by kernel_rfl
   go_upto_region 5 with fail
   clear ix
   obtain ⟨wa, hwa⟩ : ∃ W, Hid (wr.alloc (.cells #[.int .i64 0, .int .i64 4096, .int .i64 2] 136) = W) := ⟨_, rfl⟩
   rw [hwa.out]
   have hba : Below wr.heap.size wr wa := by rw [← hwa.out]; exact below_al wr _
   have HB : Hid (wa.heap[wr.heap.size]? = some (.cells #[.int .i64 0, .int .i64 4096, .int .i64 2] 136 (0, 0))) := hd (by rw [← hwa.out]; exact heap_alloc_new wr _)
   have hgl := (Array.getElem?_eq_some_iff.1 HW.out.2).1
   have HG : Hid (wa.heap[G]? = some (.cells #[.int .i64 (cvN bs s 3 0), .int .i64 (cvN bs s 3 1), .int .i64 (cvN bs s 3 2), .int .i64 (cvN bs s 3 3)] 116 (0, 0))) := hd (by rw [hba.block G hgl]; exact HW.out.2)
   have O1 : Hid (ROut w r a cap bs (stN bs s 3) wa) := hd (HW.out.1.after hba)
   have hrw := HW.out.1.1.lt
   obtain ⟨B, hB⟩ : ∃ B, Hid (wr.heap.size = B) := ⟨_, rfl⟩
   rw [hB.out] at HB hgl hrw ⊢
   clear hwa hba hB HW
   have x2 := cell_of_row wa B 2 _ _ _ HB.out
   simp at x2
   have hs := small_any O1.out.1 2 ⟨by omega, by omega⟩
   have HN : Hid (∀ W1 W2, ROut wa r a cap bs (numS bs 2 (stN bs s 3)).2 W1 → ROut (W1.setCell ⟨G, 3, none⟩ (.int .i64 ((numS bs 2 (stN bs s 3)).1 : Nat))) r a cap bs (failS (numS bs 2 (stN bs s 3)).2 (rngE 0 4096 ((numS bs 2 (stN bs s 3)).1 : Nat)) (numS bs 2 (stN bs s 3)).2.fr) W2 → ROut w r a cap bs (stN bs s 4) W2 ∧ W2.heap[G]? = some (.cells #[.int .i64 (cvN bs s 4 0), .int .i64 (cvN bs s 4 1), .int .i64 (cvN bs s 4 2), .int .i64 (cvN bs s 4 3)] 116 (0, 0))) := hd (by
    intro W1 W2 o1 o2
    have o3 := (O1.out.trans o1).put H.out (Nat.le_of_eq hG.out) 3 (.int .i64 ((numS bs 2 (stN bs s 3)).1 : Nat))
    refine ⟨o3.trans o2, ?_⟩
    have e1 : W1.heap[G]? = _ := (o1.2.block G (Array.getElem?_eq_some_iff.1 HG.out).1 (by omega)).trans HG.out
    have e2 := heap_setCell_same W1 G 3 _ _ (.int .i64 ((numS bs 2 (stN bs s 3)).1 : Nat)) e1
    rw [o2.2.block G (Array.getElem?_eq_some_iff.1 e2).1 (by omega), e2]
    rfl)
   have HK : Hid (∀ W1, ROut wa r a cap bs (numS bs 2 (stN bs s 3)).2 W1 → W1.heap[G]? = some (.cells #[.int .i64 (cvN bs s 3 0), .int .i64 (cvN bs s 3 1), .int .i64 (cvN bs s 3 2), .int .i64 (cvN bs s 3 3)] 116 (0, 0)) ∧ W1.heap[B]? = some (.cells #[.int .i64 0, .int .i64 4096, .int .i64 2] 136 (0, 0)) ∧ ROut w r a cap bs (numS bs 2 (stN bs s 3)).2 W1) := hd (by
    intro W1 o1
    exact ⟨(o1.2.block G (Array.getElem?_eq_some_iff.1 HG.out).1 (by omega)).trans HG.out, (o1.2.block B (Array.getElem?_eq_some_iff.1 HB.out).1 (by omega)).trans HB.out, O1.out.trans o1⟩)
   have hlt := numS_lt (s := stN bs s 3) O1.out.1.byte 2 (by omega)
   have hwi := within_any ((numS bs 2 (stN bs s 3)).1 : Nat) 0 4096
   clear HB HG O1
   generalize rngE 0 4096 ((numS bs 2 (stN bs s 3)).1 : Nat) = E at *
   generalize (numS bs 2 (stN bs s 3)).1 = v at *
   generalize (numS bs 2 (stN bs s 3)).2 = s1 at *
   have hf : Hid (∀ W1, ROut wa r a cap bs s1 W1 → (∀ n, W1.cell? ⟨G, n, none⟩ = (#[.int .i64 (cvN bs s 3 0), .int .i64 (cvN bs s 3 1), .int .i64 (cvN bs s 3 2), .int .i64 (cvN bs s 3 3)] : Array Value)[n]? ∧ W1.frozen? ⟨G, n, none⟩ = false)) := hd (fun W1 o1 n => ⟨cell_of_row _ _ _ _ _ _ (HK.out W1 o1).1, by simp [World.frozen?, (HK.out W1 o1).1]⟩)
   go_upto_region 6 with (go_at_call 97; refine hs.mono ?_; rintro e w1 ⟨rfl, o1⟩; have g0 := ((hf.out w1 o1) 3).1; have g1 := ((hf.out w1 o1) 3).2; replace o1 := hd o1; simp at g0)
   obtain ⟨w2, hw2⟩ : ∃ W, Hid (w1.setCell ⟨G, 3, none⟩ (.int .i64 (v : Int)) = W) := ⟨_, rfl⟩
   rw [hw2.out]
   have o2 : ROut w r a cap bs s1 w2 := by rw [← hw2.out]; exact (HK.out w1 o1.out).2.2.put H.out (Nat.le_of_eq hG.out) _ _
   have y0 : w2.cell? ⟨G, 3, none⟩ = some (.int .i64 (v : Int)) := by
    rw [← hw2.out, cell_of_row _ _ _ _ _ _ (heap_setCell_same w1 G 3 _ _ _ (HK.out w1 o1.out).1)]
    rfl
   have hB2 : w2.heap[B]? = some (.cells #[.int .i64 0, .int .i64 4096, .int .i64 2] 136 (0, 0)) := by
    rw [← hw2.out, Below.heap_setCell _ _ _ _ (by simp only; omega)]
    exact (HK.out w1 o1.out).2.1
   have y1 := cell_of_row w2 B 0 _ _ _ hB2
   have y2 := cell_of_row w2 B 1 _ _ _ hB2
   simp at y1 y2
   have y3 := o2.1.cells.2.1
   have hfl : Calls Tryz.prog 98 #[.pointer (some ⟨r, 0, none⟩), .int .i64 E, .int .i64 s1.fr] w2.drew fun e w' => e = .returned (.tuple #[]) ∧ ROut w2 r a cap bs (failS s1 E s1.fr) w' :=
    (fail_any (o2.1.below (below_draw w2 1)) E s1.fr).mono fun e w' ⟨he, ho⟩ => ⟨he, ho.1, (Mod.of_below _ (below_draw w2 1)).trans ho.2 (fun _ h => .inl h)⟩
   have HN2 : Hid (∀ W2, ROut w2 r a cap bs (failS s1 E s1.fr) W2 → _) := hd (fun W2 ho => HN.out w1 W2 o1.out (by rw [hw2.out]; exact ho))
   clear HN HK hf o1 hw2 o2 hB2 g0 g1
   have z0 : ∀ p : OneW w2.drew, p.val.cell? ⟨G, 3, none⟩ = some (.int .i64 (v : Int)) := fun p => by rw [p.is]; exact y0
   have z1 : ∀ p : OneW w2.drew, p.val.cell? ⟨B, 0, none⟩ = some (.int .i64 0) := fun p => by rw [p.is]; exact y1
   have z2 : ∀ p : OneW w2.drew, p.val.cell? ⟨B, 1, none⟩ = some (.int .i64 4096) := fun p => by rw [p.is]; exact y2
   have z3 : ∀ p : OneW w2.drew, p.val.cell? ⟨r, 1, none⟩ = some (.int .i64 s1.fr) := fun p => by rw [p.is]; exact y3
   have q1 : ∀ p : OneW w2.drew, Calls Tryz.prog 70 #[.int .i64 (v : Int), .int .i64 0, .int .i64 4096] p.val fun e w'' => e = .returned (.int .i64 E) ∧ ∃ p' : OneW w2.drew, w'' = p'.val := fun p => (hwi p.val).mono fun e w' ⟨he, hw⟩ => ⟨he, p, hw⟩
   have nek : Nonempty (OneW w2.drew) := ⟨⟨w2.drew, rfl⟩⟩
   clear hwi y0 y1 y2 y3
   refine wp_region_last (α := OneW w2.drew) 13 OneW.val (by kernel_rfl) (by kernel_rfl) (by kernel_rfl) rfl rfl ⟨w2.drew, rfl⟩ rfl ?_
   simp only [List.take_succ_cons, List.take_zero]
   repeat (go_big_quiet_step (first | with_reducible exact q1 _))
   refine wpQuiet_nil ?_
   rintro w' ⟨p, rfl⟩
   rw [p.is]
   clear z0 z1 z2 z3 q1 nek
   go_wp2_with (go_at_call 98; refine hfl.mono ?_; rintro e wx ⟨rfl, ox⟩)
   go_roundg 0
   case rel => exact ⟨4, by omega, rfl, hd (HN2.out wx ox)⟩
   case measure => omega
  ·obtain rfl : gk = 0 := by omega
   have z0 := cell_of_row wr G 0 _ _ _ HW.out.2
   have z1 := cell_of_row wr G 1 _ _ _ HW.out.2
   have z2 := cell_of_row wr G 2 _ _ _ HW.out.2
   have z3 := cell_of_row wr G 3 _ _ _ HW.out.2
   simp [cvN] at z0 z1 z2 z3
   have HR : Hid (ROut w r a cap bs (stN bs s 4) wr) := hd HW.out.1
   clear HW
   go_wp2_with fail
   go_region
   go_wp2_with fail
   (try simp only [Exit.inBlock, Exit.then]); refine bodyPost_ret (results_tmp4 rfl _ _ _) rfl ?_
   exact ⟨rfl, HR.out.after (below_draw wr 1)⟩
end
end Go.Proofs.YthhcecllejddeaaGreatDoor

namespace Go.Proofs.YthhcecllejddeaaGreatDoor
end Go.Proofs.YthhcecllejddeaaGreatDoor
