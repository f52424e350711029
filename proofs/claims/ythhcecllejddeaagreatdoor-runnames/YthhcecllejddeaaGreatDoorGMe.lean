/- slices.Clone, at five types. -/
import Derived.Test.YthhcecllejddeaaGreatDoorGMc
import Derived.Deep.RegionWith
import Derived.Deep.Cut
import Derived.Deep.CutRange
namespace Go.Proofs.YthhcecllejddeaaGreatDoor
open Go.RowKit
def ClOut (w : World) (e : TypeId) (size n : Nat) (xs : List Value) (E : Ending) (w' : World) : Prop := ∃ a' c', E = .returned (.slice a' n c') ∧ Row w' e size a' n c' xs ∧ (∀ k, blk a' = some k → w.heap.size ≤ k) ∧ Below w.heap.size w w'
set_option maxRecDepth 100000 in
theorem cloneU (a : Option Addr) (n cap : Nat) (xs : List Value) (w : World) (hR : Rd w a xs) (hx : xs.length = n * 1) (h1 : ∀ u ∈ xs, u.oneCell' = true) (hl : n ≤ 1000000) : Calls Tryz.prog 76 #[.slice a n cap] w (ClOut w 29 1 n xs) := by
 have q24 : ∀ (w : World) (a : Option Addr) (n c n' c' : Nat), (binOp .eql 23 (.slice a n c) (.slice none n' c')).run Tryz.prog w = .ok (.bool a.isNone) w := fun w a n c n' c' => Lib.run_eql_slice_nil w _ _ a n c n' c' Tryz.underlying23
 cases a with
 | none =>
  have hx0 : xs = [] := by
   rcases xs with _ | ⟨x, r⟩
   ·rfl
   ·obtain ⟨b, o, h2, _⟩ := hR 0 x rfl
    cases h2
  subst hx0
  have hn : n = 0 := by simp at hx; omega
  subst hn
  have HE : Hid (ClOut w 29 1 0 [] (.returned (.slice none 0 0)) w) := hd ⟨none, 0, rfl, Row.nil, fun k hk => (by cases hk), Below.refl _ _⟩
  clear hR hx h1 hl
  obtain ⟨Q, hQ⟩ : ∃ Q, Hid (ClOut w 29 1 0 [] = Q) := ⟨_, rfl⟩
  rw [hQ.out] at HE ⊢
  go_enter Tryz.func76, Tryz.ntmps76
  go_wp2
  exact HE.out
 | some ad =>
  obtain ⟨i, g1, g2, g3, g4⟩ := info_parts info_u64
  have hb := below_al w (.cells #[] 29)
  have hrow : Row (w.alloc (.cells #[] 29)) 29 1 (some ⟨w.heap.size, 0, none⟩) 0 0 [] := by
   have := row_new (size := 1) (n := 0) (heap_alloc_new w (.cells #[] 29)) rfl (by decide)
   exact this
  have hs : Src Tryz.prog 1 23 (.slice (some ad) n cap) n xs (w.alloc (.cells #[] 29)) := Rd.src (hR.below hb) Tryz.underlying23 hx (by omega) h1
  obtain ⟨a', c', w', k1, k2, k3, k4, _⟩ := run_append_row (P := Tryz.prog) _ 23 29 i _ 1 8 Tryz.underlying23 g1 g2 g3 g4 rfl hrow _ n _ hs (by unfold maxLen; omega) (by omega)
  have HE : Hid (ClOut w 29 1 n xs (.returned (.slice a' n c')) w') := hd ⟨a', c', rfl, by simpa using k2, fun k hk => by
   rcases k4 k hk with h | h
   ·cases h; exact Nat.le_refl _
   ·have := hb.size; omega, hb.trans (k3.below (by have := hb.size; omega) (fun k _ hk => by cases hk; exact Nat.le_refl _))⟩
  replace k1 : Hid (∀ ty, (Builtin.append_ #[23, 23] ty #[.slice (some ⟨w.heap.size, 0, none⟩) 0 0, .slice (some ad) n cap]).run Tryz.prog (w.alloc (.cells #[] 29)) = .ok (.slice a' n c') w') := hd (by simpa using k1)
  clear hR hrow hs k2 k3 k4 hx h1
  obtain ⟨Q, hQ⟩ : ∃ Q, Hid (ClOut w 29 1 n xs = Q) := ⟨_, rfl⟩
  rw [hQ.out] at HE ⊢
  go_enter Tryz.func76, Tryz.ntmps76
  go_wp2_with (first | (at_builtin; refine wpList_append_run rfl _ _ _ rfl _ _ _ _ rfl rfl k1.out ?_; clear k1))
  exact HE.out
set_option maxRecDepth 100000 in
theorem cloneI (a : Option Addr) (n cap : Nat) (xs : List Value) (w : World) (hR : Rd w a xs) (hx : xs.length = n * 1) (h1 : ∀ u ∈ xs, u.oneCell' = true) (hl : n ≤ 1000000) : Calls Tryz.prog 77 #[.slice a n cap] w (ClOut w 3 1 n xs) := by
 have q24 : ∀ (w : World) (a : Option Addr) (n c n' c' : Nat), (binOp .eql 24 (.slice a n c) (.slice none n' c')).run Tryz.prog w = .ok (.bool a.isNone) w := fun w a n c n' c' => Lib.run_eql_slice_nil w _ _ a n c n' c' Tryz.underlying24
 cases a with
 | none =>
  have hx0 : xs = [] := by
   rcases xs with _ | ⟨x, r⟩
   ·rfl
   ·obtain ⟨b, o, h2, _⟩ := hR 0 x rfl
    cases h2
  subst hx0
  have hn : n = 0 := by simp at hx; omega
  subst hn
  have HE : Hid (ClOut w 3 1 0 [] (.returned (.slice none 0 0)) w) := hd ⟨none, 0, rfl, Row.nil, fun k hk => (by cases hk), Below.refl _ _⟩
  clear hR hx h1 hl
  obtain ⟨Q, hQ⟩ : ∃ Q, Hid (ClOut w 3 1 0 [] = Q) := ⟨_, rfl⟩
  rw [hQ.out] at HE ⊢
  go_enter Tryz.func77, Tryz.ntmps77
  go_wp2
  exact HE.out
 | some ad =>
  obtain ⟨i, g1, g2, g3, g4⟩ := info_parts info_int
  have hb := below_al w (.cells #[] 3)
  have hrow : Row (w.alloc (.cells #[] 3)) 3 1 (some ⟨w.heap.size, 0, none⟩) 0 0 [] := by
   have := row_new (size := 1) (n := 0) (heap_alloc_new w (.cells #[] 3)) rfl (by decide)
   exact this
  have hs : Src Tryz.prog 1 24 (.slice (some ad) n cap) n xs (w.alloc (.cells #[] 3)) := Rd.src (hR.below hb) Tryz.underlying24 hx (by omega) h1
  obtain ⟨a', c', w', k1, k2, k3, k4, _⟩ := run_append_row (P := Tryz.prog) _ 24 3 i _ 1 8 Tryz.underlying24 g1 g2 g3 g4 rfl hrow _ n _ hs (by unfold maxLen; omega) (by omega)
  have HE : Hid (ClOut w 3 1 n xs (.returned (.slice a' n c')) w') := hd ⟨a', c', rfl, by simpa using k2, fun k hk => by
   rcases k4 k hk with h | h
   ·cases h; exact Nat.le_refl _
   ·have := hb.size; omega, hb.trans (k3.below (by have := hb.size; omega) (fun k _ hk => by cases hk; exact Nat.le_refl _))⟩
  replace k1 : Hid (∀ ty, (Builtin.append_ #[24, 24] ty #[.slice (some ⟨w.heap.size, 0, none⟩) 0 0, .slice (some ad) n cap]).run Tryz.prog (w.alloc (.cells #[] 3)) = .ok (.slice a' n c') w') := hd (by simpa using k1)
  clear hR hrow hs k2 k3 k4 hx h1
  obtain ⟨Q, hQ⟩ : ∃ Q, Hid (ClOut w 3 1 n xs = Q) := ⟨_, rfl⟩
  rw [hQ.out] at HE ⊢
  go_enter Tryz.func77, Tryz.ntmps77
  go_wp2_with (first | (at_builtin; refine wpList_append_run rfl _ _ _ rfl _ _ _ _ rfl rfl k1.out ?_; clear k1))
  exact HE.out
set_option maxRecDepth 100000 in
theorem cloneP (a : Option Addr) (n cap : Nat) (xs : List Value) (w : World) (hR : Rd w a xs) (hx : xs.length = n * 2) (h1 : ∀ u ∈ xs, u.oneCell' = true) (hl : n ≤ 1000000) : Calls Tryz.prog 78 #[.slice a n cap] w (ClOut w 57 2 n xs) := by
 have q24 : ∀ (w : World) (a : Option Addr) (n c n' c' : Nat), (binOp .eql 25 (.slice a n c) (.slice none n' c')).run Tryz.prog w = .ok (.bool a.isNone) w := fun w a n c n' c' => Lib.run_eql_slice_nil w _ _ a n c n' c' Tryz.underlying25
 cases a with
 | none =>
  have hx0 : xs = [] := by
   rcases xs with _ | ⟨x, r⟩
   ·rfl
   ·obtain ⟨b, o, h2, _⟩ := hR 0 x rfl
    cases h2
  subst hx0
  have hn : n = 0 := by simp at hx; omega
  subst hn
  have HE : Hid (ClOut w 57 2 0 [] (.returned (.slice none 0 0)) w) := hd ⟨none, 0, rfl, Row.nil, fun k hk => (by cases hk), Below.refl _ _⟩
  clear hR hx h1 hl
  obtain ⟨Q, hQ⟩ : ∃ Q, Hid (ClOut w 57 2 0 [] = Q) := ⟨_, rfl⟩
  rw [hQ.out] at HE ⊢
  go_enter Tryz.func78, Tryz.ntmps78
  go_wp2
  exact HE.out
 | some ad =>
  obtain ⟨i, g1, g2, g3, g4⟩ := info_parts info_proc
  have hb := below_al w (.cells #[] 57)
  have hrow : Row (w.alloc (.cells #[] 57)) 57 2 (some ⟨w.heap.size, 0, none⟩) 0 0 [] := by
   have := row_new (size := 2) (n := 0) (heap_alloc_new w (.cells #[] 57)) rfl (by decide)
   exact this
  have hs : Src Tryz.prog 2 25 (.slice (some ad) n cap) n xs (w.alloc (.cells #[] 57)) := Rd.src (hR.below hb) Tryz.underlying25 hx (by omega) h1
  obtain ⟨a', c', w', k1, k2, k3, k4, _⟩ := run_append_row (P := Tryz.prog) _ 25 57 i _ 2 32 Tryz.underlying25 g1 g2 g3 g4 rfl hrow _ n _ hs (by unfold maxLen; omega) (by omega)
  have HE : Hid (ClOut w 57 2 n xs (.returned (.slice a' n c')) w') := hd ⟨a', c', rfl, by simpa using k2, fun k hk => by
   rcases k4 k hk with h | h
   ·cases h; exact Nat.le_refl _
   ·have := hb.size; omega, hb.trans (k3.below (by have := hb.size; omega) (fun k _ hk => by cases hk; exact Nat.le_refl _))⟩
  replace k1 : Hid (∀ ty, (Builtin.append_ #[25, 25] ty #[.slice (some ⟨w.heap.size, 0, none⟩) 0 0, .slice (some ad) n cap]).run Tryz.prog (w.alloc (.cells #[] 57)) = .ok (.slice a' n c') w') := hd (by simpa using k1)
  clear hR hrow hs k2 k3 k4 hx h1
  obtain ⟨Q, hQ⟩ : ∃ Q, Hid (ClOut w 57 2 n xs = Q) := ⟨_, rfl⟩
  rw [hQ.out] at HE ⊢
  go_enter Tryz.func78, Tryz.ntmps78
  go_wp2_with (first | (at_builtin; refine wpList_append_run rfl _ _ _ rfl _ _ _ _ rfl rfl k1.out ?_; clear k1))
  exact HE.out
set_option maxRecDepth 100000 in
theorem cloneN (a : Option Addr) (n cap : Nat) (xs : List Value) (w : World) (hR : Rd w a xs) (hx : xs.length = n * 5) (h1 : ∀ u ∈ xs, u.oneCell' = true) (hl : n ≤ 1000000) : Calls Tryz.prog 79 #[.slice a n cap] w (ClOut w 54 5 n xs) := by
 have q24 : ∀ (w : World) (a : Option Addr) (n c n' c' : Nat), (binOp .eql 55 (.slice a n c) (.slice none n' c')).run Tryz.prog w = .ok (.bool a.isNone) w := fun w a n c n' c' => Lib.run_eql_slice_nil w _ _ a n c n' c' Tryz.underlying55
 cases a with
 | none =>
  have hx0 : xs = [] := by
   rcases xs with _ | ⟨x, r⟩
   ·rfl
   ·obtain ⟨b, o, h2, _⟩ := hR 0 x rfl
    cases h2
  subst hx0
  have hn : n = 0 := by simp at hx; omega
  subst hn
  have HE : Hid (ClOut w 54 5 0 [] (.returned (.slice none 0 0)) w) := hd ⟨none, 0, rfl, Row.nil, fun k hk => (by cases hk), Below.refl _ _⟩
  clear hR hx h1 hl
  obtain ⟨Q, hQ⟩ : ∃ Q, Hid (ClOut w 54 5 0 [] = Q) := ⟨_, rfl⟩
  rw [hQ.out] at HE ⊢
  go_enter Tryz.func79, Tryz.ntmps79
  go_wp2
  exact HE.out
 | some ad =>
  obtain ⟨i, g1, g2, g3, g4⟩ := info_parts info_insn
  have hb := below_al w (.cells #[] 54)
  have hrow : Row (w.alloc (.cells #[] 54)) 54 5 (some ⟨w.heap.size, 0, none⟩) 0 0 [] := by
   have := row_new (size := 5) (n := 0) (heap_alloc_new w (.cells #[] 54)) rfl (by decide)
   exact this
  have hs : Src Tryz.prog 5 55 (.slice (some ad) n cap) n xs (w.alloc (.cells #[] 54)) := Rd.src (hR.below hb) Tryz.underlying55 hx (by omega) h1
  obtain ⟨a', c', w', k1, k2, k3, k4, _⟩ := run_append_row (P := Tryz.prog) _ 55 54 i _ 5 40 Tryz.underlying55 g1 g2 g3 g4 rfl hrow _ n _ hs (by unfold maxLen; omega) (by omega)
  have HE : Hid (ClOut w 54 5 n xs (.returned (.slice a' n c')) w') := hd ⟨a', c', rfl, by simpa using k2, fun k hk => by
   rcases k4 k hk with h | h
   ·cases h; exact Nat.le_refl _
   ·have := hb.size; omega, hb.trans (k3.below (by have := hb.size; omega) (fun k _ hk => by cases hk; exact Nat.le_refl _))⟩
  replace k1 : Hid (∀ ty, (Builtin.append_ #[55, 55] ty #[.slice (some ⟨w.heap.size, 0, none⟩) 0 0, .slice (some ad) n cap]).run Tryz.prog (w.alloc (.cells #[] 54)) = .ok (.slice a' n c') w') := hd (by simpa using k1)
  clear hR hrow hs k2 k3 k4 hx h1
  obtain ⟨Q, hQ⟩ : ∃ Q, Hid (ClOut w 54 5 n xs = Q) := ⟨_, rfl⟩
  rw [hQ.out] at HE ⊢
  go_enter Tryz.func79, Tryz.ntmps79
  go_wp2_with (first | (at_builtin; refine wpList_append_run rfl _ _ _ rfl _ _ _ _ rfl rfl k1.out ?_; clear k1))
  exact HE.out
set_option maxRecDepth 100000 in
theorem cloneE (a : Option Addr) (n cap : Nat) (xs : List Value) (w : World) (hR : Rd w a xs) (hx : xs.length = n * 3) (h1 : ∀ u ∈ xs, u.oneCell' = true) (hl : n ≤ 1000000) : Calls Tryz.prog 84 #[.slice a n cap] w (ClOut w 163 3 n xs) := by
 have q24 : ∀ (w : World) (a : Option Addr) (n c n' c' : Nat), (binOp .eql 101 (.slice a n c) (.slice none n' c')).run Tryz.prog w = .ok (.bool a.isNone) w := fun w a n c n' c' => Lib.run_eql_slice_nil w _ _ a n c n' c' Tryz.underlying101
 cases a with
 | none =>
  have hx0 : xs = [] := by
   rcases xs with _ | ⟨x, r⟩
   ·rfl
   ·obtain ⟨b, o, h2, _⟩ := hR 0 x rfl
    cases h2
  subst hx0
  have hn : n = 0 := by simp at hx; omega
  subst hn
  have HE : Hid (ClOut w 163 3 0 [] (.returned (.slice none 0 0)) w) := hd ⟨none, 0, rfl, Row.nil, fun k hk => (by cases hk), Below.refl _ _⟩
  clear hR hx h1 hl
  obtain ⟨Q, hQ⟩ : ∃ Q, Hid (ClOut w 163 3 0 [] = Q) := ⟨_, rfl⟩
  rw [hQ.out] at HE ⊢
  go_enter Tryz.func84, Tryz.ntmps84
  go_wp2
  exact HE.out
 | some ad =>
  obtain ⟨i, g1, g2, g3, g4⟩ := info_parts info_entry
  have hb := below_al w (.cells #[] 163)
  have hrow : Row (w.alloc (.cells #[] 163)) 163 3 (some ⟨w.heap.size, 0, none⟩) 0 0 [] := by
   have := row_new (size := 3) (n := 0) (heap_alloc_new w (.cells #[] 163)) rfl (by decide)
   exact this
  have hs : Src Tryz.prog 3 101 (.slice (some ad) n cap) n xs (w.alloc (.cells #[] 163)) := Rd.src (hR.below hb) Tryz.underlying101 hx (by omega) h1
  obtain ⟨a', c', w', k1, k2, k3, k4, _⟩ := run_append_row (P := Tryz.prog) _ 101 163 i _ 3 24 Tryz.underlying101 g1 g2 g3 g4 rfl hrow _ n _ hs (by unfold maxLen; omega) (by omega)
  have HE : Hid (ClOut w 163 3 n xs (.returned (.slice a' n c')) w') := hd ⟨a', c', rfl, by simpa using k2, fun k hk => by
   rcases k4 k hk with h | h
   ·cases h; exact Nat.le_refl _
   ·have := hb.size; omega, hb.trans (k3.below (by have := hb.size; omega) (fun k _ hk => by cases hk; exact Nat.le_refl _))⟩
  replace k1 : Hid (∀ ty, (Builtin.append_ #[101, 101] ty #[.slice (some ⟨w.heap.size, 0, none⟩) 0 0, .slice (some ad) n cap]).run Tryz.prog (w.alloc (.cells #[] 163)) = .ok (.slice a' n c') w') := hd (by simpa using k1)
  clear hR hrow hs k2 k3 k4 hx h1
  obtain ⟨Q, hQ⟩ : ∃ Q, Hid (ClOut w 163 3 n xs = Q) := ⟨_, rfl⟩
  rw [hQ.out] at HE ⊢
  go_enter Tryz.func84, Tryz.ntmps84
  go_wp2_with (first | (at_builtin; refine wpList_append_run rfl _ _ _ rfl _ _ _ _ rfl rfl k1.out ?_; clear k1))
  exact HE.out
end Go.Proofs.YthhcecllejddeaaGreatDoor

namespace Go.Proofs.YthhcecllejddeaaGreatDoor
open Go.RowKit Go.Maps
def TbAt (w : World) (b : Nat) (F : Nat → Prop) (l : List Nat) : Prop := ∃ a cap mb, w.heap[b]? = some (.cells #[.slice a l.length cap, .map (some mb)] 184 (0, 0)) ∧ Row w 29 1 a l.length cap (labC l) ∧ F b ∧ ∀ k, blk a = some k → F k
def SlAt (w : World) (b : Nat) (F : Nat → Prop) (l : List Int) : Prop := ∃ a cap, w.heap[b]? = some (.cells #[.slice a l.length cap] 181 (0, 0)) ∧ Row w 3 1 a l.length cap (iC l) ∧ F b ∧ ∀ k, blk a = some k → F k
def NewOut (w : World) (P : World → Nat → (Nat → Prop) → Prop) (E : Ending) (w' : World) : Prop := ∃ b F, E = .returned (.tuple #[.pointer (some ⟨b, 0, none⟩), .int .i64 0, .int .i64 0]) ∧ P w' b F ∧ (∀ k, F k → w.heap.size ≤ k ∧ k < w'.heap.size) ∧ Below w.heap.size w w'
theorem ownsMap_below {H : Type} {R : Value → Option (DataW H × List MemPlace)} {w w' : World} {k : TypeId} {b n B : Nat} {D : DataW H} (h : w.ownsMap Tryz.prog k R b n D) (hb : Below B w w') (hlt : b < B) : w'.ownsMap Tryz.prog k R b n D := by
 have e := hb.block b hlt
 unfold World.ownsMap at *
 rw [e]
 exact h
theorem law_u64 : Keyed Tryz.prog 29 := int_keyed Tryz.underlying29
theorem run_mkU (n : Nat) (w : World) : (Instr.makeMap 182 (some (.int .i64 n))).run Tryz.prog w = .ok (.map (some w.heap.size)) (w.alloc (.map #[] 0)) := by
 simp [Instr.makeMap, run_underlying Tryz.underlying182, asInt, asIntOf]
structure TbTo (B : Nat) (w : World) (tb : Nat) (a : Option Addr) (cap mb : Nat) (l : List Nat) (k : Nat) : Prop where
 hd : w.heap[tb]? = some (.cells #[.slice a l.length cap, .map (some mb)] 184 (0, 0))
 row : Row w 29 1 a l.length cap (labC l)
 own : ∃ D : DataW Unit, w.ownsMap Tryz.prog 29 (plainElem Tryz.prog 3) mb k D
 bt : B ≤ tb
 bl : ∀ k, blk a = some k → B ≤ k
 bm : B ≤ mb
 ntm : tb ≠ mb
 nlm : blk a ≠ some mb
theorem tbTo_a {B : Nat} {w1 : World} {a : Option Addr} {cp : Nat} {l : List Nat} (hs : B ≤ w1.heap.size) (hr : Row w1 29 1 a l.length cp (labC l)) (hg : ∀ k, blk a = some k → B ≤ k) :
  TbTo B ((w1.alloc (.map #[] 0)).alloc (.cells #[.slice a l.length cp, .map (some w1.heap.size)] 184)) (w1.heap.size + 1) a cp w1.heap.size l 0 where
 hd := by
  have := heap_alloc_new (w1.alloc (.map #[] 0)) (.cells #[.slice a l.length cp, .map (some w1.heap.size)] 184)
  have e : (w1.alloc (.map #[] 0)).heap.size = w1.heap.size + 1 := by simp
  rw [e] at this
  exact this
 row := (hr.below (below_al w1 _)).below (below_al _ _)
 own := ⟨_, (World.ownsMap_made _ _ _ _).alloc _⟩
 bt := by omega
 bl := hg
 bm := hs
 ntm := by omega
 nlm := fun e => by have := hr.lt _ e; omega
theorem tbTo_b {B : Nat} {w0 w1 : World} {a : Option Addr} {cp : Nat} {l : List Nat} (hb : Below (w0.alloc (.map #[] 0)).heap.size (w0.alloc (.map #[] 0)) w1) (hs : B ≤ w0.heap.size) (hg : ∀ k, blk a = some k → (w0.alloc (.map #[] 0)).heap.size ≤ k) (hr : Row w1 29 1 a l.length cp (labC l)) :
  TbTo B (w1.alloc (.cells #[.slice a l.length cp, .map (some w0.heap.size)] 184)) w1.heap.size a cp w0.heap.size l 0 where
 hd := heap_alloc_new w1 _
 row := hr.below (below_al w1 _)
 own := ⟨_, (ownsMap_below (World.ownsMap_made w0 _ _ _) hb (by simp)).alloc _⟩
 bt := by have := hb.size; simp at this; omega
 bl := fun k hk => by have := hg k hk; simp at this; omega
 bm := hs
 ntm := by have := hb.size; simp at this; omega
 nlm := fun e => by have := hg _ e; simp at this; omega
theorem TbTo.put {B k : Nat} {w w1 : World} {tb : Nat} {a : Option Addr} {cp mb : Nat} {l : List Nat} {D : DataW Unit} (h : TbTo B w tb a cp mb l k) (hown : w1.ownsMap Tryz.prog 29 (plainElem Tryz.prog 3) mb (k + 1) D) (hg : w.grownBy w1 (some mb)) : TbTo B w1 tb a cp mb l (k + 1) where
 hd := by rw [hg.block _ (Array.getElem?_eq_some_iff.1 h.hd).1 (fun e => h.ntm (Option.some.inj e))]; exact h.hd
 row := h.row.mod (Wheel.mod_grown hg) (fun k hk e => h.nlm (by rw [hk, e]))
 own := ⟨D, hown⟩
 bt := h.bt
 bl := h.bl
 bm := h.bm
 ntm := h.ntm
 nlm := h.nlm
set_option maxRecDepth 100000 in
set_option maxHeartbeats 2000000 in
theorem tnew_any (a : Option Addr) (cap : Nat) (l : List Nat) (w : World) (hC : Rd w a (labC l)) (hyes : (lbL l).1 = 0) (hw : ∀ x ∈ l, x < 18446744073709551616) :
  Calls Tryz.prog 73 #[.slice a l.length cap] w (NewOut w (fun W b F => TbAt W b F l)) := by
 have hmay := tmay_any a cap l w hC
 have hlen := lab_len hyes
 rw [hyes] at hmay
 have hw' : ∀ i, l.getD i 0 < 18446744073709551616 := fun i => by
  rcases Nat.lt_or_ge i l.length with h | h
  ·rw [List.getD_eq_getElem?_getD, List.getElem?_eq_getElem h]
   exact hw _ (List.getElem_mem h)
  ·rw [List.getD_eq_getElem?_getD, List.getElem?_eq_none h]
   decide
 have hmk := run_mkU l.length
 have hcl : ∀ W, Below w.heap.size w W → Calls Tryz.prog 76 #[.slice a l.length cap] W (ClOut W 29 1 l.length (labC l)) := fun W hb => cloneU a l.length cap _ W (hC.below hb) (labC_len l) (labC_one l) (by omega)
 obtain ⟨b, off, rfl, hc⟩ := rd_lab hC (by omega)
 replace hc := hd hc
 clear hC hyes hw
 go_enter Tryz.func73, Tryz.ntmps73
 go_upto_region 4 with (go_at_call 68; refine hmay.mono ?_; rintro e w0 ⟨rfl, hd⟩; have hb0 : Below w.heap.size w w0 := by (obtain ⟨n, rfl⟩ := hd; exact below_drewN (Below.refl _ _) n))
 clear hd
 go_cut [7] from 19 to 25 (fun s wx => ∃ tb a' cp mb, s = .pointer (some ⟨tb, 0, none⟩) ∧ TbTo w.heap.size wx tb a' cp mb l 0 ∧ Below w.heap.size w wx)
 case first =>
  go_region_with (go_at_call 76; refine (hcl _ ?_).mono ?_; (first | exact hb0.drew | exact hb0.drew.alloc (by simpa using hb0.size) _); rintro e w1 ⟨a', cp, rfl, hrow, hnew, hb1⟩)
  ·go_wp2_with fail
   go_meet
   case rel =>
    have hs1 : w0.heap.size ≤ w1.heap.size := hb1.size
    have hs0 : w.heap.size ≤ w0.heap.size := hb0.size
    exact ⟨_, _, _, _, rfl, tbTo_a (by omega) hrow (fun k hk => Nat.le_trans hs0 (hnew k hk)), ((hb0.drew.trans (hb1.mono hs0)).alloc (by omega) _).alloc (by simp; omega) _⟩
  ·go_wp2_with fail
   go_meet
   case rel =>
    have hs0 : w.heap.size ≤ w0.heap.size := hb0.size
    have hb1' : Below (w0.alloc (.map #[] 0)).heap.size (w0.alloc (.map #[] 0)) w1 := ((Below.refl _ _).drew).trans hb1
    have hs1' := hb1'.size
    simp at hs1'
    exact ⟨_, _, _, _, rfl, tbTo_b hb1' hs0 hnew hrow, (((hb0.alloc hs0 _).trans (hb1'.mono (by simp; omega))).alloc (by omega) _)⟩
 case rest =>
  obtain ⟨tb, a', cp, mb, rfl, hT, hbel⟩ := hcut
  clear hb0 hmay hcl
  go_wp2
  go_loopw [28] (fun i wr => ∃ k : Nat, k ≤ l.length ∧ i = .int .i64 k ∧ TbTo w.heap.size wr tb a' cp mb l k ∧ Below w.heap.size w wr) (fun i _ => l.length - (intOf i).toNat)
  case atStart => exact ⟨0, Nat.zero_le _, rfl, hT, hbel⟩
  case round =>
   obtain ⟨k, hk, rfl, hTr, hbr⟩ := hrel
   clear hT hbel
   by_cases hlt : k < l.length
   ·have hx0 := hc.out k hlt
    have hx : wr.cell? ⟨b, off + k, none⟩ = some (.int .u64 (l.getD k 0 : Nat)) := (hbr.cell (World.block_lt_of_cell? w _ hx0)).trans hx0
    have hc1 : wr.cell? ⟨tb, 1, none⟩ = some (.map (some mb)) := by rw [cell_of_row _ _ _ _ _ _ hTr.hd]; rfl
    obtain ⟨D, hown⟩ := hTr.own
    have hwk : (Lit.int .u64 ((l.getD k 0 : Nat) : Int)).wf = true := WalkArith.wf_u64 (by have := hw' k; omega)
    have hkey : keyOf Tryz.prog 29 (.int .u64 (l.getD k 0 : Nat)) = some (.int .u64 (l.getD k 0 : Nat)) := keyOf_int_mk Tryz.underlying29 hwk
    generalize l.getD k 0 = x at hx hkey
    clear hwk hx0
    go_wp2_with (first | (at_mapUpdate; refine wpList_mapUpdate_own _ rfl _ _ _ 182 rfl 29 3 law_u64 Tryz.underlying182 _ mb k _ rfl hown (by unfold maxLen; omega) _ _ _ rfl rfl hkey _ [] (plainElem_int Tryz.underlying3 (WalkArith.wf_i64 (by omega))) ?_; intro w1 hown1 hgrow1) | go_in)
    go_roundw
    case rel => exact ⟨k + 1, by omega, by go_num, hTr.put hown1 hgrow1, hbr.grown hgrow1 hbr.size (fun j hj => by cases hj; exact hTr.bm)⟩
    case measure => simp [intOf]; omega
   ·have e : k = l.length := by omega
    subst e
    go_wp2
    go_ret3
    refine ⟨tb, fun k => k = tb ∨ blk a' = some k, rfl, ⟨a', cp, mb, hTr.hd, hTr.row, .inl rfl, fun k hk => .inr hk⟩, fun k hk => ?_, hbr⟩
    rcases hk with rfl | hk
    ·exact ⟨hTr.bt, (Array.getElem?_eq_some_iff.1 hTr.hd).1⟩
    ·exact ⟨hTr.bl k hk, hTr.row.lt k hk⟩
set_option maxRecDepth 100000 in
set_option maxHeartbeats 1000000 in
theorem slnew_any (a : Option Addr) (cap : Nat) (l : List Int) (P : Int) (w : World) (hC : Rd w a (iC l)) (h1 : 1 ≤ P) (h2 : P ≤ 8) (h0 : 1 ≤ l.length) (h3 : l.length ≤ 64) (h5 : ∀ i, i < l.length → 0 ≤ l.getD i 0 ∧ l.getD i 0 < P) :
  Calls Tryz.prog 69 #[.slice a l.length cap, .int .i64 P] w (NewOut w (fun W b F => SlAt W b F l)) := by
 have h1d : decide (P < 1) = false := by simp; omega
 have h2d : decide (8 < P) = false := by simp; omega
 have h3d : ((l.length : Int) == 0) = false := by rw [beq_eq_false_iff_ne]; omega
 have h3' : (l.length : Int) ≤ 64 := by omega
 have h4d : decide ((64 : Int) < (l.length : Int)) = false := by simp; omega
 replace h5 := hd h5
 have hcl := cloneI a l.length cap _ w hC (iC_len l) (iC_one l) (by omega)
 obtain ⟨b, off, rfl, hc⟩ : ∃ b off, a = some ⟨b, off, none⟩ ∧ Hid (∀ i, i < l.length → w.cell? ⟨b, off + i, none⟩ = some (.int .i64 (l.getD i 0))) := by
  obtain ⟨b, o, rfl, _⟩ := hC 0 _ (iC_at l 0 (by omega))
  refine ⟨b, o, rfl, hd (fun i hi => ?_)⟩
  obtain ⟨b', o', e, hc⟩ := hC i _ (iC_at l i hi)
  cases e
  exact hc
 clear hC
 go_enter Tryz.func69, Tryz.ntmps69
 go_wp2
 go_loop [25] (fun i => ∃ k : Nat, k ≤ l.length ∧ i = .int .i64 k) (fun i => l.length - (intOf i).toNat)
 case atStart => exact ⟨0, Nat.zero_le _, rfl⟩
 case round =>
  obtain ⟨k, hk, rfl⟩ := hrel
  by_cases hlt : k < l.length
  ·have hx := hc.out k hlt
   have hlt' : (k : Int) < (l.length : Int) := by omega
   have hb := hd (h5.out k hlt)
   generalize l.getD k 0 = x at *
   obtain ⟨o1, o2⟩ := hb.out
   have hnd : decide (x < 0) = false := by simp; omega
   have hgd : decide (P ≤ x) = false := by simp; omega
   clear hb
   go_wp2
   go_round
   case rel => exact ⟨k + 1, by omega, by go_num⟩
   case measure => simp [intOf]; omega
  ·have ek : k = l.length := by omega
   subst ek
   go_wp2_with fail
   refine hcl.mono ?_
   rintro e w1 ⟨a', cp, rfl, hrow, hnew, hb1⟩
   go_wp2
   go_ret3
   refine ⟨_, fun k => k = w1.heap.size ∨ blk a' = some k, rfl, ⟨a', cp, heap_alloc_new w1 _, hrow.below (below_al w1 _), .inl rfl, fun k hk => .inr hk⟩, fun k hk => ?_, hb1.alloc hb1.size _⟩
   have hs := hb1.size
   rcases hk with rfl | hk
   ·exact ⟨hs, by simp⟩
   ·have := hrow.lt k hk
    exact ⟨hnew k hk, by simp; omega⟩
end Go.Proofs.YthhcecllejddeaaGreatDoor
