/- A table in memory, and what its small methods answer. -/
import Derived.Test.YtaikeeidjfcijaaW1
import Derived.Maps.OwnSet
import Derived.Deep.Quiet
import Derived.Deep.QuietTactic
import Derived.BigQuiet
namespace Go.Proofs.Ytaikeeidjfcijaa
open Go.RowKit Go.Maps

theorem law35 : Keyed Try.prog 35 := int_keyed Try.underlying35
theorem zero3 (w : World) : (zeroValue 3).run Try.prog w = .ok (.int .i64 0) w := by kernel_rfl

/-- A table of the labels c lies at the block tb: its list at lb, its map at mb. -/
structure Tab (w : World) (tb lb cap mb : Nat) (c : List Nat) : Prop where
  c0 : w.cell? ⟨tb, 0, none⟩ = some (.slice (some ⟨lb, 0, none⟩) c.length cap)
  c1 : w.cell? ⟨tb, 1, none⟩ = some (.map (some mb))
  lab : ∀ i, i < c.length → w.cell? ⟨lb, i, none⟩ = some (.int .u64 (c.getD i 0 : Nat))
  own : w.ownsMap Try.prog 35 (plainElem Try.prog 3) mb c.length (tabMap c c.length)
  wf : ∀ i, c.getD i 0 < 18446744073709551616
  len : c.length ≤ 8
  cap : c.length ≤ cap
  pos : 0 < c.length

theorem ownsMap_below {H : Type} {R : Value → Option (DataW H × List MemPlace)} {w w' : World} {k : TypeId} {b n B : Nat} {D : DataW H} (h : w.ownsMap Try.prog k R b n D) (hb : Below B w w') (hlt : b < B) : w'.ownsMap Try.prog k R b n D := by
  have e := hb.block b hlt
  unfold World.ownsMap at *
  rw [e]
  exact h

theorem Tab.kept {w w' : World} {tb lb cap mb : Nat} {c : List Nat} (h : Tab w tb lb cap mb c) (hb : Below w.heap.size w w') : Tab w' tb lb cap mb c where
  c0 := (hb.cell (World.block_lt_of_cell? w _ h.c0)).trans h.c0
  c1 := (hb.cell (World.block_lt_of_cell? w _ h.c1)).trans h.c1
  lab := fun i hi => (hb.cell (World.block_lt_of_cell? w _ (h.lab i hi))).trans (h.lab i hi)
  own := ownsMap_below h.own hb h.own.lt
  wf := h.wf
  len := h.len
  cap := h.cap
  pos := h.pos

theorem below_drewN {B : Nat} {a w : World} (h : Below B a w) (n : Nat) : Below B a (w.drewN n) := ⟨h.os, h.tape, h.output, h.size, h.block⟩

set_option maxHeartbeats 400000 in
theorem len_any {w : World} {tb lb cap mb : Nat} {c : List Nat} (h : Tab w tb lb cap mb c) :
    Calls Try.prog 17 #[.pointer (some ⟨tb, 0, none⟩)] w fun e w' => e = .returned (.int .i64 c.length) ∧ w' = w := by
  have c0 := h.c0
  go_enter Try.func17, Try.ntmps17
  go_wp2
  go_ret
  exact ⟨rfl, rfl⟩

set_option maxHeartbeats 400000 in
theorem hasP_any {w : World} {tb lb cap mb : Nat} {c : List Nat} (h : Tab w tb lb cap mb c) (i : Int) :
    Calls Try.prog 33 #[.pointer (some ⟨tb, 0, none⟩), .int .i64 i] w fun e w' => e = .returned (.bool (inT c i)) ∧ w' = w := by
  have c0 := h.c0
  have e1 : inT c i = (decide (0 ≤ i) && decide (i < c.length)) := rfl
  by_cases h0 : 0 ≤ i
  · rw [e1, decide_eq_true h0]
    go_enter Try.func33, Try.ntmps33
    go_wp2
    go_ret
    exact ⟨ret_bool (by simp), rfl⟩
  · have h2 : decide (0 ≤ i) = false := by simp; omega
    rw [e1, h2]
    go_enter Try.func33, Try.ntmps33
    go_wp2
    go_ret
    exact ⟨rfl, rfl⟩

theorem inT_nat {c : List Nat} {i : Int} (h : inT c i = true) : ∃ k : Nat, i = k ∧ k < c.length := by
  unfold inT at h
  simp only [Bool.and_eq_true, decide_eq_true_eq] at h
  exact ⟨i.toNat, by omega, by omega⟩
theorem inT_of (c : List Nat) (k : Nat) (h : k < c.length) : inT c (k : Int) = true := by
  unfold inT
  simp only [Bool.and_eq_true, decide_eq_true_eq]
  omega

set_option maxHeartbeats 400000 in
theorem label_yes {w : World} {tb lb cap mb : Nat} {c : List Nat} (h : Tab w tb lb cap mb c) (k : Nat) (hk : k < c.length) :
    Calls Try.prog 18 #[.pointer (some ⟨tb, 0, none⟩), .int .i64 k] w fun e w' => e = .returned (.tuple #[.int .u64 (c.getD k 0 : Nat), .int .i64 0]) ∧ w' = w := by
  have c0 := h.c0
  have l0 := h.lab k hk
  have hn := h.len
  have h1 := hasP_any h k
  rw [inT_of c k hk] at h1
  generalize c.getD k 0 = x at *
  go_enter Try.func18, Try.ntmps18
  go_wp2_with (go_at_call 33; refine h1.mono ?_; rintro e w' ⟨rfl, rfl⟩)
  go_ret2
  exact ⟨rfl, rfl⟩

set_option maxHeartbeats 400000 in
theorem label_no {w : World} {tb lb cap mb : Nat} {c : List Nat} (h : Tab w tb lb cap mb c) (i : Int) (hi : inT c i = false) :
    Calls Try.prog 18 #[.pointer (some ⟨tb, 0, none⟩), .int .i64 i] w fun e w' => e = .returned (.tuple #[.int .u64 0, .int .i64 2]) ∧ w' = w := by
  have h1 := hasP_any h i
  rw [hi] at h1
  go_enter Try.func18, Try.ntmps18
  go_wp2_with (go_at_call 33; refine h1.mono ?_; rintro e w' ⟨rfl, rfl⟩)
  go_ret2
  exact ⟨rfl, rfl⟩

set_option maxHeartbeats 400000 in
theorem index_any {w : World} {tb lb cap mb : Nat} {c : List Nat} (h : Tab w tb lb cap mb c) (a : Nat) (ha : a < 18446744073709551616) :
    Calls Try.prog 24 #[.pointer (some ⟨tb, 0, none⟩), .int .u64 a] w fun e w' => e = .returned (.tuple #[.int .i64 ((lastIx c a c.length).getD 0 : Nat), .bool (lastIx c a c.length).isSome]) ∧ w' = w := by
  have c1 := h.c1
  have hw : (Lit.int .u64 (a : Int)).wf = true := by
    exact WalkArith.wf_u64 (by omega)
  have hkey : keyOf Try.prog 35 (.int .u64 a) = some (.int .u64 a) := keyOf_int_mk Try.underlying35 hw
  have hat := tabMap_at c a c.length
  have hhas := tabMap_has c a c.length
  have hown := h.own
  generalize (lastIx c a c.length).getD 0 = q at *
  generalize (lastIx c a c.length).isSome = r at *
  generalize tabMap c c.length = D at *
  go_enter Try.func24, Try.ntmps24
  go_wp2_with (first | (at_lookup; refine wpList_lookup_own_ok_int _ rfl _ _ 52 rfl 35 3 .i64 law35 Try.underlying52 Try.underlying3 (zero3 _) mb c.length D rfl hown _ _ rfl hkey ?_; intro x hx hwx) | go_in)
  go_ret2
  rw [hat] at hx
  injection hx with hx
  injection hx with _ hx
  subst hx
  exact ⟨rfl, rfl⟩

theorem tflows_no1 {c : List Nat} {i j : Int} (h : inT c i = false) : tflows c i j = false := by unfold tflows; rw [h]; rfl
theorem tflows_no2 {c : List Nat} {i j : Int} (h : inT c j = false) : tflows c i j = false := by unfold tflows; rw [h]; cases inT c i <;> rfl
theorem tflows_yes {c : List Nat} {i j : Nat} (hi : i < c.length) (hj : j < c.length) : tflows c (i : Nat) (j : Nat) = flowsB (c.getD i 0) (c.getD j 0) := by
  unfold tflows
  rw [inT_of c i hi, inT_of c j hj, Int.toNat_natCast, Int.toNat_natCast]; rfl

theorem hasP_at {w : World} {tb lb cap mb : Nat} {c : List Nat} (h : Tab w tb lb cap mb c) (i : Int) {b : Bool} (hi : inT c i = b) (n : Nat) :
    Calls Try.prog 33 #[.pointer (some ⟨tb, 0, none⟩), .int .i64 i] (w.drewN n) fun e w' => e = .returned (.bool b) ∧ w' = w.drewN n := by
  have := hasP_any (h.kept (below_drewN (Below.refl _ _) n)) i
  rw [hi] at this
  exact this

set_option maxRecDepth 100000 in
set_option maxHeartbeats 1000000 in
theorem tflows_any {w : World} {tb lb cap mb : Nat} {c : List Nat} (h : Tab w tb lb cap mb c) (i j : Int) :
    Calls Try.prog 22 #[.pointer (some ⟨tb, 0, none⟩), .int .i64 i, .int .i64 j] w fun e w' => e = .returned (.bool (tflows c i j)) ∧ ∃ n, w' = w.drewN n := by
  have c0 := h.c0
  have hn := h.len
  cases hi : inT c i
  · rw [tflows_no1 hi]
    have h1 := hasP_at h i hi
    clear hi h
    go_enter Try.func22, Try.ntmps22
    go_wp2_with fail
    go_quiet (first | (go_at_call 33; with_reducible exact Calls.quiet_of_same (h1 _)))
    go_wp2
    go_ret
    exact ⟨rfl, _, rfl⟩
  · cases hj : inT c j
    · rw [tflows_no2 hj]
      have h1 := hasP_at h i hi
      have h2 := hasP_at h j hj
      clear hi hj h
      go_enter Try.func22, Try.ntmps22
      go_wp2_with fail
      go_quiet (first | (go_at_call 33; with_reducible exact Calls.quiet_of_same (h1 _)) | (go_at_call 33; with_reducible exact Calls.quiet_of_same (h2 _)))
      go_wp2
      go_ret
      exact ⟨rfl, _, rfl⟩
    · obtain ⟨k, rfl, hk⟩ := inT_nat hi
      obtain ⟨m, rfl, hm⟩ := inT_nat hj
      rw [tflows_yes hk hm]
      have lk := h.lab k hk
      have lm := h.lab m hm
      have fl := fun w => flows_any (c.getD k 0) (c.getD m 0) (h.wf k) (h.wf m) w
      generalize flowsB (c.getD k 0) (c.getD m 0) = r at *
      generalize c.getD k 0 = x at *
      generalize c.getD m 0 = y at *
      have hk' : (k : Int) < (c.length : Int) := by omega
      have hm' : (m : Int) < (c.length : Int) := by omega
      have h1 := hasP_at h k hi
      have h2 := hasP_at h m hj
      clear hi hj h
      go_enter Try.func22, Try.ntmps22
      go_wp2_with fail
      go_quiet (first | (go_at_call 33; with_reducible exact Calls.quiet_of_same (h1 _)) | (go_at_call 33; with_reducible exact Calls.quiet_of_same (h2 _)) | (go_at_call 34; refine Calls.quiet_of_same (fl _)))
      go_wp2
      go_ret
      exact ⟨rfl, _, rfl⟩
end Go.Proofs.Ytaikeeidjfcijaa
