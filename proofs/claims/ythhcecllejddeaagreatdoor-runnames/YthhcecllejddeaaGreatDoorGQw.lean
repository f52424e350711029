/- A reader in memory, and its small functions. -/
import Derived.Test.YthhcecllejddeaaGreatDoorGCc
import Derived.Test.YthhcecllejddeaaGreatDoorGQm
import Derived.Test.YthhcecllejddeaaGreatDoorGXLW1
import Derived.Deep.LoopGhost
import Derived.Deep.RegionHeld3
import Derived.Deep.CondSized
import Derived.Deep.DeepCutAuto
import Derived.Deep.CutRange
import Derived.Deep.CutBlock
import Derived.Deep.QuietTactic
import Derived.BigQuiet
import Derived.Laws.MakeOwn
namespace Go.Proofs.YthhcecllejddeaaGreatDoor
open Go.RowKit
structure St where
 fr : Nat
 nx : Nat
 e : Int
 at_ : Int
def rdA (a : Option Addr) (n cap : Nat) (s : St) : Array Value := #[.slice a n cap, .int .i64 s.fr, .int .i64 s.nx, .int .i64 s.e, .int .i64 s.at_]
structure RdAt (w : World) (r : Nat) (a : Option Addr) (cap : Nat) (bs : List Nat) (s : St) : Prop where
 obj : w.heap[r]? = some (.cells (rdA a bs.length cap s) 88 (0, 0))
 rd : Rd w a (bCells bs)
 ne : bs.length ≠ 0 → ∀ k, blk a = some k → k ≠ r
 byte : Byte bs
 le : bs.length ≤ 1048576
 room : bs.length ≤ cap
 nx : s.nx ≤ bs.length
 fr : s.fr ≤ bs.length
def numS (bs : List Nat) (k : Nat) (s : St) : Nat × St :=
 if s.e ≠ 0 then (0, s) else if bs.length < s.nx + k then (0, { s with e := 5, at_ := bs.length }) else (sumB bs s.nx k, { s with fr := s.nx, nx := s.nx + k })
def failS (s : St) (e a : Int) : St := if s.e = 0 ∧ e ≠ 0 then { s with e := e, at_ := a } else s
def ROut (w : World) (r : Nat) (a : Option Addr) (cap : Nat) (bs : List Nat) (s' : St) (w' : World) : Prop := RdAt w' r a cap bs s' ∧ Mod (fun k => k = r) w w'
theorem rd_mod {w w' : World} {S : Nat → Prop} {a : Option Addr} {bs : List Nat} (h : Rd w a (bCells bs)) (hb : bs.length ≠ 0 → ∀ k, blk a = some k → ¬ S k) (hm : Mod S w w') : Rd w' a (bCells bs) := fun j u hj => by
 obtain ⟨b, o, rfl, hc⟩ := h j u hj
 have hl : bs.length ≠ 0 := by
  intro e
  rw [List.getElem?_eq_none (by rw [bCells_len]; omega)] at hj
  cases hj
 exact ⟨b, o, rfl, by rw [hm.cell (p := ⟨b, o + j, none⟩) (World.block_lt_of_cell? w _ hc) (hb hl b rfl)]; exact hc⟩
section
variable {w w' : World} {r : Nat} {a : Option Addr} {cap : Nat} {bs : List Nat} {s : St}
theorem RdAt.lt (h : RdAt w r a cap bs s) : r < w.heap.size := (Array.getElem?_eq_some_iff.1 h.obj).1
theorem RdAt.cell (h : RdAt w r a cap bs s) (i : Nat) : w.cell? ⟨r, i, none⟩ = (rdA a bs.length cap s)[i]? := cell_of_row _ _ _ _ _ _ h.obj
theorem RdAt.free (h : RdAt w r a cap bs s) (i : Nat) : w.frozen? ⟨r, i, none⟩ = false := by simp [World.frozen?, h.obj]
theorem RdAt.cells (h : RdAt w r a cap bs s) : w.cell? ⟨r, 0, none⟩ = some (.slice a bs.length cap) ∧ w.cell? ⟨r, 1, none⟩ = some (.int .i64 s.fr) ∧ w.cell? ⟨r, 2, none⟩ = some (.int .i64 s.nx) ∧ w.cell? ⟨r, 3, none⟩ = some (.int .i64 s.e) ∧ w.cell? ⟨r, 4, none⟩ = some (.int .i64 s.at_) :=
 ⟨h.cell 0, h.cell 1, h.cell 2, h.cell 3, h.cell 4⟩
theorem RdAt.below (h : RdAt w r a cap bs s) (hb : Below w.heap.size w w') : RdAt w' r a cap bs s :=
 ⟨by rw [hb.block r h.lt]; exact h.obj, h.rd.below hb, h.ne, h.byte, h.le, h.room, h.nx, h.fr⟩
theorem RdAt.put (h : RdAt w r a cap bs s) (i : Nat) (v : Value) {s' : St} (he : (rdA a bs.length cap s).setIfInBounds i v = rdA a bs.length cap s') (hn : s'.nx ≤ bs.length) (hf : s'.fr ≤ bs.length) : RdAt (w.setCell ⟨r, i, none⟩ v) r a cap bs s' :=
 ⟨by rw [heap_setCell_same w r i _ _ v h.obj, he], rd_mod h.rd (fun hz k hk e => h.ne hz k hk e) ((Mod.refl (fun k => k = r) w).setCell (.inl rfl) v), h.ne, h.byte, h.le, h.room, hn, hf⟩
theorem RdAt.at (h : RdAt w r a cap bs s) (i : Nat) (hi : i < bs.length) : ∃ b o, a = some ⟨b, o, none⟩ ∧ w.cell? ⟨b, o + i, none⟩ = some (.int .u8 ((bs.getD i 0 : Nat) : Int)) :=
 h.rd i _ (by simp [bCells, List.getD_eq_getElem?_getD, List.getElem?_eq_getElem hi])
theorem ROut.refl (h : RdAt w r a cap bs s) : ROut w r a cap bs s w := ⟨h, Mod.refl _ _⟩
theorem ROut.trans {w1 w2 : World} {s1 s2 : St} (h : ROut w r a cap bs s1 w1) (k : ROut w1 r a cap bs s2 w2) : ROut w r a cap bs s2 w2 := ⟨k.1, h.2.trans k.2 (fun _ h => .inl h)⟩
theorem ROut.after {w1 w2 : World} {s1 : St} (h : ROut w r a cap bs s1 w1) (hb : Below w1.heap.size w1 w2) : ROut w r a cap bs s1 w2 := ⟨h.1.below hb, h.2.after hb⟩
theorem below_draw (w : World) (n : Nat) : Below w.heap.size w (w.drewN n) := ⟨rfl, rfl, rfl, Nat.le_refl _, fun _ _ => rfl⟩
end
set_option maxRecDepth 100000 in
theorem within_any (v lo hi : Int) (w : World) :
  Calls Tryz.prog 70 #[.int .i64 v, .int .i64 lo, .int .i64 hi] w fun e w' => e = .returned (.int .i64 (rngE lo hi v)) ∧ w' = w := by
 obtain ⟨E, hE⟩ : ∃ E, Hid (rngE lo hi v = E) := ⟨_, rfl⟩
 rw [hE.out]
 by_cases h1 : v < lo
 ·obtain rfl : E = 2 := by rw [← hE.out, rngE, if_neg (by omega)]
  go_enter Tryz.func70, Tryz.ntmps70
  go_wp2
  go_ret
  exact ⟨rfl, rfl⟩
 ·have d1 : decide (v < lo) = false := by simpa using h1
  by_cases h2 : hi < v
  ·obtain rfl : E = 2 := by rw [← hE.out, rngE, if_neg (by omega)]
   go_enter Tryz.func70, Tryz.ntmps70
   go_wp2
   go_ret
   exact ⟨rfl, rfl⟩
  ·have d2 : decide (hi < v) = false := by simpa using h2
   obtain rfl : E = 0 := by rw [← hE.out, rngE, if_pos (by omega)]
   go_enter Tryz.func70, Tryz.ntmps70
   go_wp2
   go_ret
   exact ⟨rfl, rfl⟩
set_option maxRecDepth 100000 in
theorem some_any (n most : Int) (w : World) :
  Calls Tryz.prog 71 #[.int .i64 n, .int .i64 most] w fun e w' => e = .returned (.int .i64 (cntE most n)) ∧ w' = w := by
 obtain ⟨E, hE⟩ : ∃ E, Hid (cntE most n = E) := ⟨_, rfl⟩
 rw [hE.out]
 by_cases h1 : n = 0
 ·obtain rfl : E = 1 := by rw [← hE.out, cntE, if_pos h1]
  subst h1
  go_enter Tryz.func71, Tryz.ntmps71
  go_wp2
  go_ret
  exact ⟨rfl, rfl⟩
 ·have d1 : (n == 0) = false := by simpa using h1
  by_cases h2 : most < n
  ·obtain rfl : E = 3 := by rw [← hE.out, cntE, if_neg h1, if_pos h2]
   go_enter Tryz.func71, Tryz.ntmps71
   go_wp2
   go_ret
   exact ⟨rfl, rfl⟩
  ·have d2 : decide (most < n) = false := by simpa using h2
   obtain rfl : E = 0 := by rw [← hE.out, cntE, if_neg h1, if_neg h2]
   go_enter Tryz.func71, Tryz.ntmps71
   go_wp2
   go_ret
   exact ⟨rfl, rfl⟩
section
variable {w : World} {r : Nat} {a : Option Addr} {cap : Nat} {bs : List Nat} {s : St}
set_option maxRecDepth 100000 in
theorem failed_any (h : RdAt w r a cap bs s) (b : Bool) (hb : b = !(s.e == 0)) :
  Calls Tryz.prog 60 #[.pointer (some ⟨r, 0, none⟩)] w fun e w' => e = .returned (.bool b) ∧ w' = w := by
 have k3 := h.cells.2.2.2.1
 clear h
 have HB := hd hb
 clear hb
 go_enter Tryz.func60, Tryz.ntmps60
 go_wp2
 go_ret
 exact ⟨ret_bool (by rw [HB.out]; rfl), rfl⟩
set_option maxRecDepth 100000 in
theorem fail_any (h : RdAt w r a cap bs s) (x y : Int) :
  Calls Tryz.prog 98 #[.pointer (some ⟨r, 0, none⟩), .int .i64 x, .int .i64 y] w fun e w' => e = .returned (.tuple #[]) ∧ ROut w r a cap bs (failS s x y) w' := by
 by_cases h0 : s.e = 0
 ·have hf := failed_any h false (by simp [h0])
  by_cases h1 : x = 0
  ·have HR : Hid (ROut w r a cap bs (failS s x y) w) := hd (by rw [failS, if_neg (by simp [h1])]; exact ROut.refl h)
   subst h1
   clear h h0
   go_enter Tryz.func98, Tryz.ntmps98
   go_wp2_with (go_at_call 60; refine hf.mono ?_; rintro e w1 ⟨rfl, rfl⟩)
   refine bodyPost_end (results_none rfl _ _ _) rfl ?_
   exact ⟨rfl, HR.out⟩
  ·have d1 : (x == 0) = false := by simpa using h1
   have HR : Hid (ROut w r a cap bs (failS s x y) ((w.setCell ⟨r, 3, none⟩ (.int .i64 x)).setCell ⟨r, 4, none⟩ (.int .i64 y))) := hd (by
    rw [failS, if_pos ⟨h0, h1⟩]
    exact ⟨(h.put 3 _ (s' := { s with e := x }) rfl h.nx h.fr).put 4 _ (s' := { s with e := x, at_ := y }) rfl h.nx h.fr, ((Mod.refl (fun k => k = r) w).setCell (.inl rfl) _).setCell (.inl rfl) _⟩)
   have k3 := h.cells.2.2.2.1
   have k4 := h.cells.2.2.2.2
   have f3 := h.free 3
   have f4 := h.free 4
   clear h h0
   go_enter Tryz.func98, Tryz.ntmps98
   go_wp2_with (go_at_call 60; refine hf.mono ?_; rintro e w1 ⟨rfl, rfl⟩)
   refine bodyPost_end (results_none rfl _ _ _) rfl ?_
   exact ⟨rfl, HR.out⟩
 ·have hf := failed_any h true (by simp [h0])
  have HR : Hid (ROut w r a cap bs (failS s x y) w) := hd (by rw [failS, if_neg (by simp [h0])]; exact ROut.refl h)
  clear h h0
  go_enter Tryz.func98, Tryz.ntmps98
  go_wp2_with (go_at_call 60; refine hf.mono ?_; rintro e w1 ⟨rfl, rfl⟩)
  refine bodyPost_end (results_none rfl _ _ _) rfl ?_
  exact ⟨rfl, HR.out⟩
end
end Go.Proofs.YthhcecllejddeaaGreatDoor

namespace Go.Proofs.YthhcecllejddeaaGreatDoor
open Go.RowKit
section
variable {w : World} {r : Nat} {a : Option Addr} {cap : Nat} {bs : List Nat} {s : St}
set_option maxRecDepth 100000 in
set_option maxHeartbeats 2000000 in
theorem number_ok (h : RdAt w r a cap bs s) (k : Nat) (hk : 1 ≤ k ∧ k ≤ 8) (h0 : s.e = 0) (hl : s.nx + k ≤ bs.length) :
  Calls Tryz.prog 99 #[.pointer (some ⟨r, 0, none⟩), .int .i64 k] w fun e w' => e = .returned (.int .u64 (sumB bs s.nx k : Nat)) ∧ ROut w r a cap bs { s with fr := s.nx, nx := s.nx + k } w' := by
 have hf := failed_any h false (by simp [h0])
 obtain ⟨b, o, rfl, -⟩ := h.at s.nx (by omega)
 have HC : Hid (∀ i, i < bs.length → w.cell? ⟨b, o + i, none⟩ = some (.int .u8 ((bs.getD i 0 : Nat) : Int))) := hd (fun i hi => by
  obtain ⟨b', o', e, hc⟩ := h.at i hi
  cases e
  exact hc)
 have HB : Hid (Byte bs) := hd h.byte
 have k0 := h.cells.1
 have k1 := h.cells.2.1
 have k2 := h.cells.2.2.1
 have f1 := h.free 1
 have f2 := h.free 2
 have HR : Hid (∀ W : World, Below w.heap.size w W → ROut w r (some ⟨b, o, none⟩) cap bs { s with fr := s.nx, nx := s.nx + k } ((W.setCell ⟨r, 1, none⟩ (.int .i64 s.nx)).setCell ⟨r, 2, none⟩ (.int .i64 (s.nx + k : Nat)))) := hd fun W hW => by
  have h' := h.below hW
  exact ⟨(h'.put 1 _ (s' := { s with fr := s.nx }) rfl h.nx h.nx).put 2 _ (s' := { s with fr := s.nx, nx := s.nx + k }) rfl hl h.nx, (((Mod.of_below (fun k => k = r) hW)).setCell (.inl rfl) _).setCell (.inl rfl) _⟩
 have hle := h.le
 have hS : Hid (∀ j, sumB bs s.nx (j + 1) = sumB bs s.nx j + bs.getD (s.nx + j) 0 * 2 ^ (8 * j)) := hd fun j => rfl
 have hL : Hid (∀ j, sumB bs s.nx j < 2 ^ (8 * j)) := hd (sumB_lt bs s.nx h.byte)
 have hz : Hid (sumB bs s.nx 0 = 0) := hd rfl
 clear h h0
 obtain ⟨fr, nx, e, at_⟩ := s
 simp only at *
 obtain ⟨nk, hnk⟩ : ∃ nk : Nat, nx + k = nk := ⟨_, rfl⟩
 have enk : (nx : Int) + (k : Int) = (nk : Int) := by omega
 rw [hnk] at HR hl
 have HN := hd hnk
 clear hnk
 generalize sumB bs nx = S at *
 have d1 : decide ((bs.length : Int) - (nx : Int) < (k : Int)) = false := by simp; omega
 go_enter Tryz.func99, Tryz.ntmps99
 go_upto_region 3 with (go_at_call 60; refine hf.mono ?_; rintro e w1 ⟨rfl, rfl⟩)
 go_quiet (fail)
 go_upto_region 7 with fail
 go_wp2_with fail
 go_loopg [5, 6, 29, 30, 31, 32, 33, 34, 35, 36, 37, 38, 39, 40, 41, 42, 43, 44, 45, 46, 47, 48, 49, 50] k (fun g v5 v6 v29 v30 v31 v32 v33 v34 v35 v36 v37 v38 v39 v40 v41 v42 v43 v44 v45 v46 v47 v48 v49 v50 wr => ∃ j n : Nat, j + g = k ∧ v29 = .int .i64 (j : Int) ∧ v5 = .int .u64 (S j : Nat) ∧ wr = w1.drewN n)
 case atStart => exact ⟨0, nq, by omega, by go_num, by rw [hz.out]; rfl, rfl⟩
 case round =>
  obtain ⟨j, n, hjk, rfl, rfl, rfl⟩ := hrel
  by_cases h0 : gk = 0
  ·subst h0
   have ej : j = k := by omega
   subst ej
   clear hjk
   have k0' : (w1.drewN n).cell? ⟨r, 2, none⟩ = some (.int .i64 nx) := k2
   go_wp2_with fail
   go_region
   go_wp2_with fail
   go_ret
   refine ⟨rfl, ?_⟩
   rw [HN.out]
   exact HR.out _ (below_draw w1 (n + 1))
  ·have hlt : j < k := by omega
   have hx := HC.out (nx + j) (by have := HN.out; omega)
   have hor := or_val (hL.out j) (HB.out (nx + j)) (by omega) (hS.out j)
   have hy := HB.out (nx + j)
   generalize bs.getD (nx + j) 0 = y at *
   obtain ⟨m, hm⟩ : ∃ m, nx + j = m := ⟨_, rfl⟩
   have em : (nx : Int) + (j : Int) = (m : Int) := by omega
   have hmn : (m : Int) < (bs.length : Int) := by have := HN.out; omega
   rw [hm] at hx
   clear hm
   obtain ⟨T, hT⟩ : ∃ T, Hid (S (j + 1) = T) := ⟨_, rfl⟩
   rw [hT.out] at hor
   go_upto_region 10 with fail
   go_quiet (fail)
   go_wp2_with fail
   go_roundg (gk - 1)
   case rel => exact ⟨j + 1, _, by omega, by go_num, by rw [hT.out], rfl⟩
   case measure => omega
set_option maxRecDepth 100000 in
set_option maxHeartbeats 1000000 in
theorem number_no (h : RdAt w r a cap bs s) (k : Nat) (h0 : s.e ≠ 0) :
  Calls Tryz.prog 99 #[.pointer (some ⟨r, 0, none⟩), .int .i64 k] w fun e w' => e = .returned (.int .u64 0) ∧ w' = w := by
 have hf := failed_any h true (by simp [h0])
 clear h h0
 go_enter Tryz.func99, Tryz.ntmps99
 go_wp2_with (go_at_call 60; refine hf.mono ?_; rintro e w1 ⟨rfl, rfl⟩)
 go_ret
 exact ⟨rfl, rfl⟩
set_option maxRecDepth 100000 in
set_option maxHeartbeats 1000000 in
theorem number_short (h : RdAt w r a cap bs s) (k : Nat) (hk : k ≤ 8) (h0 : s.e = 0) (hl : bs.length < s.nx + k) :
  Calls Tryz.prog 99 #[.pointer (some ⟨r, 0, none⟩), .int .i64 k] w fun e w' => e = .returned (.int .u64 0) ∧ ROut w r a cap bs { s with e := 5, at_ := bs.length } w' := by
 have hf := failed_any h false (by simp [h0])
 have k0 := h.cells.1
 have k2 := h.cells.2.2.1
 have hle := h.le
 have hnx := h.nx
 have d1 : (bs.length : Int) - (s.nx : Int) < (k : Int) := by omega
 have HF : Hid (∀ W : World, Below w.heap.size w W → Calls Tryz.prog 98 #[.pointer (some ⟨r, 0, none⟩), .int .i64 5, .int .i64 bs.length] W fun e w' => e = .returned (.tuple #[]) ∧ ROut w r a cap bs { s with e := 5, at_ := bs.length } w') := hd fun W hW =>
  (fail_any (h.below hW) 5 bs.length).mono fun e w' ⟨he, ho⟩ => ⟨he, by
   rw [failS, if_pos ⟨h0, by decide⟩] at ho
   exact ⟨ho.1, (Mod.of_below _ hW).trans ho.2 (fun _ h => .inl h)⟩⟩
 clear h h0
 obtain ⟨fr, nx, e, at_⟩ := s
 simp only at *
 go_enter Tryz.func99, Tryz.ntmps99
 go_upto_region 3 with (go_at_call 60; refine hf.mono ?_; rintro e w1 ⟨rfl, rfl⟩)
 go_quiet (fail)
 have HF1 := HF.out (w1.drewN nq) (below_draw w1 nq)
 have k0' : (w1.drewN nq).cell? ⟨r, 0, none⟩ = some (.slice a bs.length cap) := k0
 go_wp2_with (go_at_call 98; refine HF1.mono ?_; rintro e w2 ⟨rfl, ho⟩)
 go_ret
 exact ⟨rfl, ho⟩
theorem rnum_any (h : RdAt w r a cap bs s) (k : Nat) (hk : 1 ≤ k ∧ k ≤ 8) :
  Calls Tryz.prog 99 #[.pointer (some ⟨r, 0, none⟩), .int .i64 k] w fun e w' => e = .returned (.int .u64 ((numS bs k s).1 : Nat)) ∧ ROut w r a cap bs (numS bs k s).2 w' := by
 unfold numS
 by_cases h0 : s.e = 0
 ·rw [if_neg (by simp [h0])]
  by_cases hl : bs.length < s.nx + k
  ·rw [if_pos hl]
   exact number_short h k hk.2 h0 hl
  ·rw [if_neg hl]
   exact number_ok h k hk h0 (by omega)
 ·rw [if_pos h0]
  exact (number_no h k h0).mono fun e w' ⟨he, hw⟩ => ⟨he, by subst hw; exact ROut.refl h⟩
theorem numS_lt (hb : Byte bs) (k : Nat) (hk : k ≤ 2) : (numS bs k s).1 < 65536 := by
 unfold numS
 split
 ·simp
 ·split
  ·simp
  ·have h1 := sumB_lt bs s.nx hb k
   have h2 : 2 ^ (8 * k) ≤ 2 ^ 16 := Nat.pow_le_pow_right (by decide) (by omega)
   have h3 : (2 : Nat) ^ 16 = 65536 := by decide
   simp only
   omega
set_option maxRecDepth 100000 in
theorem small_any (h : RdAt w r a cap bs s) (k : Nat) (hk : 1 ≤ k ∧ k ≤ 2) :
  Calls Tryz.prog 97 #[.pointer (some ⟨r, 0, none⟩), .int .i64 k] w fun e w' => e = .returned (.int .i64 ((numS bs k s).1 : Nat)) ∧ ROut w r a cap bs (numS bs k s).2 w' := by
 have hn := rnum_any h k ⟨hk.1, by omega⟩
 have hl := numS_lt (s := s) h.byte k hk.2
 generalize (numS bs k s).1 = v at *
 clear h
 go_enter Tryz.func97, Tryz.ntmps97
 go_wp2_with (go_at_call 99; refine hn.mono ?_; rintro e w1 ⟨rfl, ho⟩)
 go_ret
 exact ⟨rfl, ho⟩
def chkS (bs : List Nat) (k : Nat) (f : Nat → Int) (s : St) : Nat × St := ((numS bs k s).1, failS (numS bs k s).2 (f (numS bs k s).1) (numS bs k s).2.fr)
set_option maxRecDepth 100000 in
set_option maxHeartbeats 1000000 in
theorem count_any (h : RdAt w r a cap bs s) (most : Int) :
  Calls Tryz.prog 64 #[.pointer (some ⟨r, 0, none⟩), .int .i64 most] w fun e w' => e = .returned (.int .i64 ((chkS bs 1 (fun n => cntE most n) s).1 : Nat)) ∧ ROut w r a cap bs (chkS bs 1 (fun n => cntE most n) s).2 w' := by
 have hn := small_any h 1 ⟨by omega, by omega⟩
 have hl := numS_lt (s := s) h.byte 1 (by omega)
 have HF : Hid (∀ (W1 W : World) (s' : St) (x : Int), ROut w r a cap bs s' W1 → Below W1.heap.size W1 W → Calls Tryz.prog 98 #[.pointer (some ⟨r, 0, none⟩), .int .i64 x, .int .i64 s'.fr] W fun e w' => e = .returned (.tuple #[]) ∧ ROut w r a cap bs (failS s' x s'.fr) w') := hd fun W1 W s' x hR hW =>
  (fail_any (hR.after hW).1 x s'.fr).mono fun e w' ⟨he, ho⟩ => ⟨he, (hR.after hW).trans ho⟩
 unfold chkS
 simp only
 have hs := some_any ((numS bs 1 s).1 : Nat) most
 generalize cntE most ((numS bs 1 s).1 : Nat) = E at *
 generalize (numS bs 1 s).1 = v at *
 generalize (numS bs 1 s).2 = s1 at *
 clear h
 go_enter Tryz.func64, Tryz.ntmps64
 go_upto_region 2 with (go_at_call 97; refine hn.mono ?_; rintro e w1 ⟨rfl, ho⟩)
 have k1 := ho.1.cells.2.1
 have HO := hd ho
 clear ho hn
 go_region_with (first | (go_at_call 71; with_reducible refine (hs _).mono ?_; rintro e w2 ⟨rfl, rfl⟩) | (go_at_call 98; refine (HF.out _ _ s1 E HO.out (below_draw _ _)).mono ?_; rintro e w2 ⟨rfl, ho2⟩))
 all_goals go_wp2_with fail
 all_goals go_ret
 all_goals exact ⟨rfl, ho2⟩
set_option maxRecDepth 100000 in
set_option maxHeartbeats 1000000 in
theorem part_any (h : RdAt w r a cap bs s) (P : Nat) (hP : P ≤ 1000000) :
  Calls Tryz.prog 65 #[.pointer (some ⟨r, 0, none⟩), .int .i64 P] w fun e w' => e = .returned (.int .i64 ((chkS bs 1 (fun n => rngE 0 ((P : Int) - 1) n) s).1 : Nat)) ∧ ROut w r a cap bs (chkS bs 1 (fun n => rngE 0 ((P : Int) - 1) n) s).2 w' := by
 have hn := small_any h 1 ⟨by omega, by omega⟩
 have hl := numS_lt (s := s) h.byte 1 (by omega)
 have HF : Hid (∀ (W1 W : World) (s' : St) (x : Int), ROut w r a cap bs s' W1 → Below W1.heap.size W1 W → Calls Tryz.prog 98 #[.pointer (some ⟨r, 0, none⟩), .int .i64 x, .int .i64 s'.fr] W fun e w' => e = .returned (.tuple #[]) ∧ ROut w r a cap bs (failS s' x s'.fr) w') := hd fun W1 W s' x hR hW =>
  (fail_any (hR.after hW).1 x s'.fr).mono fun e w' ⟨he, ho⟩ => ⟨he, (hR.after hW).trans ho⟩
 unfold chkS
 simp only
 have hs := within_any ((numS bs 1 s).1 : Nat) 0 ((P : Int) - 1)
 have eP : IntKind.i64.wrap ((P : Int) - 1) = (P : Int) - 1 := by rw [IntKind.wrap_i64]; omega
 generalize rngE 0 ((P : Int) - 1) ((numS bs 1 s).1 : Nat) = E at *
 generalize (numS bs 1 s).1 = v at *
 generalize (numS bs 1 s).2 = s1 at *
 clear h
 go_enter Tryz.func65, Tryz.ntmps65
 go_upto_region 2 with (go_at_call 97; refine hn.mono ?_; rintro e w1 ⟨rfl, ho⟩)
 have k1 := ho.1.cells.2.1
 have HO := hd ho
 clear ho hn
 go_region_with (first | (go_at_call 70; with_reducible refine (hs _).mono ?_; rintro e w2 ⟨rfl, rfl⟩) | (go_at_call 98; refine (HF.out _ _ s1 E HO.out (below_draw _ _)).mono ?_; rintro e w2 ⟨rfl, ho2⟩))
 all_goals go_wp2_with fail
 all_goals go_ret
 all_goals exact ⟨rfl, ho2⟩
end
end Go.Proofs.YthhcecllejddeaaGreatDoor

namespace Go.Proofs.YthhcecllejddeaaGreatDoor
open Go.RowKit
def Stage {α : Type} (whole : Res α) (s : St) (rest : Res α) : Prop := (s.e = 0 ∧ s.at_ = 0 ∧ whole = rest) ∨ (s.e ≠ 0 ∧ whole = .er s.e s.at_)
theorem failS_bad {s : St} {x y : Int} (h : s.e ≠ 0) : failS s x y = s := by unfold failS; rw [if_neg (fun k => h k.1)]
theorem failS_ok {s : St} {y : Int} : failS s 0 y = s := by unfold failS; rw [if_neg (fun k => k.2 rfl)]
theorem failS_set {s : St} {x y : Int} (h : s.e = 0) (hx : x ≠ 0) : failS s x y = { s with e := x, at_ := y } := by unfold failS; rw [if_pos ⟨h, hx⟩]
theorem numS_bad {bs : List Nat} {k : Nat} {s : St} (h : s.e ≠ 0) : numS bs k s = (0, s) := by unfold numS; rw [if_pos h]
theorem chkS_bad {bs : List Nat} {k : Nat} {f : Nat → Int} {s : St} (h : s.e ≠ 0) : chkS bs k f s = (0, s) := by
 unfold chkS
 rw [numS_bad h, failS_bad h]
theorem Stage.chk {α : Type} {whole : Res α} {s : St} {bs : List Nat} {k : Nat} {f : Nat → Int} {g : Nat → Par α} (h : Stage whole s (bind_ (numP k f) g bs s.nx)) :
  Stage whole (chkS bs k f s).2 (g (chkS bs k f s).1 bs (chkS bs k f s).2.nx) := by
 rcases h with ⟨h1, h2, h3⟩ | ⟨h1, h2⟩
 ·unfold bind_ numP at h3
  unfold chkS numS
  rw [if_neg (by simp [h1])]
  by_cases hl : bs.length < s.nx + k
  ·rw [if_pos hl] at h3 ⊢
   right
   rw [failS_bad (by simp)]
   exact ⟨by simp, h3⟩
  ·rw [if_neg hl] at h3 ⊢
   simp only
   by_cases hf : f (sumB bs s.nx k) ≠ 0
   ·rw [if_pos hf] at h3
    rw [failS_set (by exact h1) hf]
    right
    exact ⟨hf, h3⟩
   ·rw [if_neg hf] at h3
    have hf' : f (sumB bs s.nx k) = 0 := by simpa using hf
    rw [hf', failS_ok]
    left
    exact ⟨h1, h2, h3⟩
 ·rw [chkS_bad h1]
  right
  exact ⟨h1, h2⟩
theorem chk_val {s : St} {bs : List Nat} {k : Nat} {f : Nat → Int} (h : (chkS bs k f s).2.e = 0) : s.e = 0 ∧ f (chkS bs k f s).1 = 0 ∧ s.nx + k ≤ bs.length ∧ (chkS bs k f s).1 = sumB bs s.nx k ∧ (chkS bs k f s).2 = { s with fr := s.nx, nx := s.nx + k } := by
 by_cases h0 : s.e = 0
 ·unfold chkS numS at *
  rw [if_neg (by simp [h0])] at *
  by_cases hl : bs.length < s.nx + k
  ·rw [if_pos hl, failS_bad (by simp)] at h
   simp at h
  ·rw [if_neg hl] at *
   simp only at *
   by_cases hf : f (sumB bs s.nx k) = 0
   ·rw [hf, failS_ok] at *
    exact ⟨h0, by trivial, by omega, by trivial, by trivial⟩
   ·rw [failS_set (by exact h0) hf] at h
    exact absurd h hf
 ·rw [chkS_bad h0] at h
  exact absurd h h0
theorem Stage.good {α : Type} {whole rest : Res α} {s : St} (h : Stage whole s rest) (h0 : s.e = 0) : whole = rest ∧ s.at_ = 0 := by
 rcases h with ⟨_, h2, h3⟩ | ⟨h1, _⟩
 ·exact ⟨h3, h2⟩
 ·exact absurd h0 h1
theorem Stage.bad {α : Type} {whole rest : Res α} {s : St} (h : Stage whole s rest) (h0 : s.e ≠ 0) : whole = .er s.e s.at_ := by
 rcases h with ⟨h1, _⟩ | ⟨_, h2⟩
 ·exact absurd h1 h0
 ·exact h2
def hdF (acc : List Nat) (n : Nat) : Int := if n = hdB.getD acc.length 0 then 0 else 4
section
variable {w : World} {r : Nat} {a : Option Addr} {cap : Nat} {bs : List Nat} {s : St}
set_option maxRecDepth 100000 in
set_option maxHeartbeats 4000000 in
theorem head_any (h : RdAt w r a cap bs s) (h0 : s.e = 0 ∧ s.at_ = 0 ∧ s.nx = 0) :
  Calls Tryz.prog 59 #[.pointer (some ⟨r, 0, none⟩)] w fun e w' => e = .returned (.tuple #[]) ∧ ∃ s', ROut w r a cap bs s' w' ∧ ∃ acc, Stage (repP (fun acc => numP 1 (hdF acc)) 5 [] bs 0) s' (pure_ acc bs s'.nx) := by
 have HS : Hid (∃ s' acc, acc.length = 0 ∧ (s'.e = 0 → s'.nx = 0) ∧ Stage (repP (fun acc => numP 1 (hdF acc)) 5 [] bs 0) s' (repP (fun acc => numP 1 (hdF acc)) 5 acc bs s'.nx) ∧ ROut w r a cap bs s' w) := hd ⟨s, [], rfl, fun _ => h0.2.2, .inl ⟨h0.1, h0.2.1, by rw [h0.2.2]⟩, ROut.refl h⟩
 clear h h0
 go_enter Tryz.func59, Tryz.ntmps59
 go_wp2_with fail
 go_loopg [2, 3, 4, 5, 6, 7, 8, 9, 10, 11, 12, 13, 14] 5 (fun g v2 v3 v4 v5 v6 v7 v8 v9 v10 v11 v12 v13 v14 wr => ∃ i : Nat, i + g = 5 ∧ v3 = .int .i64 (i : Int) ∧ Hid (∃ s' acc, acc.length = i ∧ (s'.e = 0 → s'.nx = i) ∧ Stage (repP (fun acc => numP 1 (hdF acc)) 5 [] bs 0) s' (repP (fun acc => numP 1 (hdF acc)) g acc bs s'.nx) ∧ ROut w r a cap bs s' wr))
 case atStart => exact ⟨0, by omega, by go_num, HS⟩
 case round =>
  obtain ⟨i, hi, rfl, HW⟩ := hrel
  clear HS
  by_cases h0 : gk = 0
  ·subst h0
   obtain rfl : i = 5 := by omega
   go_wp2_with fail
   refine bodyPost_end (results_none rfl _ _ _) rfl ?_
   obtain ⟨s', acc, -, -, h3, h4⟩ := HW.out
   exact ⟨rfl, s', h4, acc, h3⟩
  ·obtain ⟨g, rfl⟩ : ∃ g, gk = g + 1 := ⟨gk - 1, by omega⟩
   obtain ⟨s', acc, e1, e2, e3, e4⟩ := HW.out
   clear HW
   have hn : Calls Tryz.prog 97 #[.pointer (some ⟨r, 0, none⟩), .int .i64 1] wr.drew fun e w' => e = .returned (.int .i64 ((numS bs 1 s').1 : Nat)) ∧ ROut wr r a cap bs (numS bs 1 s').2 w' :=
    (small_any (e4.1.below (below_draw wr 1)) 1 ⟨by omega, by omega⟩).mono fun e w' ⟨he, ho⟩ => ⟨he, ho.1, (Mod.of_below _ (below_draw wr 1)).trans ho.2 (fun _ h => .inl h)⟩
   have hl := numS_lt (s := s') e4.1.byte 1 (by omega)
   have e5 := Stage.chk e3
   have HX : Hid ((numS bs 1 s').2.e = 0 → (numS bs 1 s').2.fr = i ∧ (numS bs 1 s').2.nx = i + 1) := hd (by
    intro hz
    by_cases hz0 : s'.e = 0
    ·unfold numS at hz ⊢
     rw [if_neg (by simp [hz0])] at hz ⊢
     split at hz
     ·simp at hz
     ·next hle =>
      rw [if_neg hle]
      exact ⟨e2 hz0, by simp [e2 hz0]⟩
    ·rw [numS_bad hz0] at hz
     exact absurd hz hz0)
   have HN : Hid (∀ (W1 W2 : World), ROut wr r a cap bs (numS bs 1 s').2 W1 → ROut W1 r a cap bs (failS (numS bs 1 s').2 (hdF acc (numS bs 1 s').1) (i : Int)) W2 → ∃ s' acc, acc.length = i + 1 ∧ (s'.e = 0 → s'.nx = i + 1) ∧ Stage (repP (fun acc => numP 1 (hdF acc)) 5 [] bs 0) s' (repP (fun acc => numP 1 (hdF acc)) g acc bs s'.nx) ∧ ROut w r a cap bs s' W2) := hd (by
    intro W1 W2 o1 o2
    have hsame : failS (numS bs 1 s').2 (hdF acc (numS bs 1 s').1) (i : Int) = (chkS bs 1 (hdF acc) s').2 := by
     unfold chkS
     by_cases hz : (numS bs 1 s').2.e = 0
     ·rw [(HX.out hz).1]
     ·rw [failS_bad hz, failS_bad hz]
    rw [hsame] at o2
    refine ⟨_, acc ++ [(chkS bs 1 (hdF acc) s').1], by simp [e1], fun hz => ?_, e5, (e4.trans o1).trans o2⟩
    have := chk_val hz
    rw [this.2.2.2.2]
    simp [e2 this.1])
   clear e5 e3 HX
   have HA := hd e1
   clear e1 e2 h0
   have HE : Hid (hdF acc (numS bs 1 s').1 = if (numS bs 1 s').1 = hdB.getD i 0 then 0 else 4) := hd (by unfold hdF; rw [HA.out])
   have HF : Hid (∀ (W1 : World), ROut wr r a cap bs (numS bs 1 s').2 W1 → Calls Tryz.prog 98 #[.pointer (some ⟨r, 0, none⟩), .int .i64 4, .int .i64 i] W1 fun e w' => e = .returned (.tuple #[]) ∧ ROut W1 r a cap bs (failS (numS bs 1 s').2 4 (i : Int)) w') := hd fun W1 o1 => fail_any o1.1 4 (i : Int)
   clear HA e4
   generalize hdF acc (numS bs 1 s').1 = E at *
   generalize (numS bs 1 s').1 = v at *
   generalize (numS bs 1 s').2 = s1 at *
   obtain ⟨I, hI⟩ : ∃ I : Int, Hid ((i : Int) = I) := ⟨_, rfl⟩
   rw [hI.out] at HF HN
   have hc : i = 0 ∨ i = 1 ∨ i = 2 ∨ i = 3 ∨ i = 4 := by omega
   rcases hc with rfl | rfl | rfl | rfl | rfl
   ·obtain rfl : g = 4 := by omega
    obtain rfl : I = 0 := by rw [← hI.out]; rfl
    by_cases hv : v = 70
    ·obtain rfl : E = 0 := by rw [HE.out, show hdB.getD 0 0 = 70 from rfl, if_pos hv]
     subst hv
     clear HE HF hl
     go_upto_region 3 with fail
     go_region_with (first | (go_at_call 97; refine hn.mono ?_; rintro e w1 ⟨rfl, ho⟩))
     all_goals go_wp2_with fail
     all_goals go_roundg 4
     all_goals first | omega | exact ⟨1, by omega, rfl, hd (HN.out w1 w1 ho (by rw [failS_ok]; exact ROut.refl ho.1))⟩
    ·obtain rfl : E = 4 := by rw [HE.out, show hdB.getD 0 0 = 70 from rfl, if_neg hv]
     have hv' : ((v : Int) != IntKind.i64.wrap (((⟨#[70, 66, 67, 70, 1]⟩ : ByteArray)[0]'(by decide)).toNat : Int)) = true := by
      rw [show IntKind.i64.wrap (((⟨#[70, 66, 67, 70, 1]⟩ : ByteArray)[0]'(by decide)).toNat : Int) = 70 by decide +kernel]
      simp
      omega
     clear HE hv
     go_upto_region 3 with fail
     go_region_with (first | (go_at_call 97; refine hn.mono ?_; rintro e w1 ⟨rfl, ho⟩; have hf1 := HF.out w1 ho))
     all_goals go_wp2_with (go_at_call 98; refine hf1.mono ?_; rintro e w2 ⟨rfl, ho2⟩)
     all_goals go_roundg 4
     all_goals first | omega | exact ⟨1, by omega, rfl, hd (HN.out w1 w2 ho ho2)⟩
   ·obtain rfl : g = 3 := by omega
    obtain rfl : I = 1 := by rw [← hI.out]; rfl
    by_cases hv : v = 66
    ·obtain rfl : E = 0 := by rw [HE.out, show hdB.getD 1 0 = 66 from rfl, if_pos hv]
     subst hv
     clear HE HF hl
     go_upto_region 3 with fail
     go_region_with (first | (go_at_call 97; refine hn.mono ?_; rintro e w1 ⟨rfl, ho⟩))
     all_goals go_wp2_with fail
     all_goals go_roundg 3
     all_goals first | omega | exact ⟨2, by omega, rfl, hd (HN.out w1 w1 ho (by rw [failS_ok]; exact ROut.refl ho.1))⟩
    ·obtain rfl : E = 4 := by rw [HE.out, show hdB.getD 1 0 = 66 from rfl, if_neg hv]
     have hv' : ((v : Int) != IntKind.i64.wrap (((⟨#[70, 66, 67, 70, 1]⟩ : ByteArray)[1]'(by decide)).toNat : Int)) = true := by
      rw [show IntKind.i64.wrap (((⟨#[70, 66, 67, 70, 1]⟩ : ByteArray)[1]'(by decide)).toNat : Int) = 66 by decide +kernel]
      simp
      omega
     clear HE hv
     go_upto_region 3 with fail
     go_region_with (first | (go_at_call 97; refine hn.mono ?_; rintro e w1 ⟨rfl, ho⟩; have hf1 := HF.out w1 ho))
     all_goals go_wp2_with (go_at_call 98; refine hf1.mono ?_; rintro e w2 ⟨rfl, ho2⟩)
     all_goals go_roundg 3
     all_goals first | omega | exact ⟨2, by omega, rfl, hd (HN.out w1 w2 ho ho2)⟩
   ·obtain rfl : g = 2 := by omega
    obtain rfl : I = 2 := by rw [← hI.out]; rfl
    by_cases hv : v = 67
    ·obtain rfl : E = 0 := by rw [HE.out, show hdB.getD 2 0 = 67 from rfl, if_pos hv]
     subst hv
     clear HE HF hl
     go_upto_region 3 with fail
     go_region_with (first | (go_at_call 97; refine hn.mono ?_; rintro e w1 ⟨rfl, ho⟩))
     all_goals go_wp2_with fail
     all_goals go_roundg 2
     all_goals first | omega | exact ⟨3, by omega, rfl, hd (HN.out w1 w1 ho (by rw [failS_ok]; exact ROut.refl ho.1))⟩
    ·obtain rfl : E = 4 := by rw [HE.out, show hdB.getD 2 0 = 67 from rfl, if_neg hv]
     have hv' : ((v : Int) != IntKind.i64.wrap (((⟨#[70, 66, 67, 70, 1]⟩ : ByteArray)[2]'(by decide)).toNat : Int)) = true := by
      rw [show IntKind.i64.wrap (((⟨#[70, 66, 67, 70, 1]⟩ : ByteArray)[2]'(by decide)).toNat : Int) = 67 by decide +kernel]
      simp
      omega
     clear HE hv
     go_upto_region 3 with fail
     go_region_with (first | (go_at_call 97; refine hn.mono ?_; rintro e w1 ⟨rfl, ho⟩; have hf1 := HF.out w1 ho))
     all_goals go_wp2_with (go_at_call 98; refine hf1.mono ?_; rintro e w2 ⟨rfl, ho2⟩)
     all_goals go_roundg 2
     all_goals first | omega | exact ⟨3, by omega, rfl, hd (HN.out w1 w2 ho ho2)⟩
   ·obtain rfl : g = 1 := by omega
    obtain rfl : I = 3 := by rw [← hI.out]; rfl
    by_cases hv : v = 70
    ·obtain rfl : E = 0 := by rw [HE.out, show hdB.getD 3 0 = 70 from rfl, if_pos hv]
     subst hv
     clear HE HF hl
     go_upto_region 3 with fail
     go_region_with (first | (go_at_call 97; refine hn.mono ?_; rintro e w1 ⟨rfl, ho⟩))
     all_goals go_wp2_with fail
     all_goals go_roundg 1
     all_goals first | omega | exact ⟨4, by omega, rfl, hd (HN.out w1 w1 ho (by rw [failS_ok]; exact ROut.refl ho.1))⟩
    ·obtain rfl : E = 4 := by rw [HE.out, show hdB.getD 3 0 = 70 from rfl, if_neg hv]
     have hv' : ((v : Int) != IntKind.i64.wrap (((⟨#[70, 66, 67, 70, 1]⟩ : ByteArray)[3]'(by decide)).toNat : Int)) = true := by
      rw [show IntKind.i64.wrap (((⟨#[70, 66, 67, 70, 1]⟩ : ByteArray)[3]'(by decide)).toNat : Int) = 70 by decide +kernel]
      simp
      omega
     clear HE hv
     go_upto_region 3 with fail
     go_region_with (first | (go_at_call 97; refine hn.mono ?_; rintro e w1 ⟨rfl, ho⟩; have hf1 := HF.out w1 ho))
     all_goals go_wp2_with (go_at_call 98; refine hf1.mono ?_; rintro e w2 ⟨rfl, ho2⟩)
     all_goals go_roundg 1
     all_goals first | omega | exact ⟨4, by omega, rfl, hd (HN.out w1 w2 ho ho2)⟩
   ·obtain rfl : g = 0 := by omega
    obtain rfl : I = 4 := by rw [← hI.out]; rfl
    by_cases hv : v = 1
    ·obtain rfl : E = 0 := by rw [HE.out, show hdB.getD 4 0 = 1 from rfl, if_pos hv]
     subst hv
     clear HE HF hl
     go_upto_region 3 with fail
     go_region_with (first | (go_at_call 97; refine hn.mono ?_; rintro e w1 ⟨rfl, ho⟩))
     all_goals go_wp2_with fail
     all_goals go_roundg 0
     all_goals first | omega | exact ⟨5, by omega, rfl, hd (HN.out w1 w1 ho (by rw [failS_ok]; exact ROut.refl ho.1))⟩
    ·obtain rfl : E = 4 := by rw [HE.out, show hdB.getD 4 0 = 1 from rfl, if_neg hv]
     have hv' : ((v : Int) != IntKind.i64.wrap (((⟨#[70, 66, 67, 70, 1]⟩ : ByteArray)[4]'(by decide)).toNat : Int)) = true := by
      rw [show IntKind.i64.wrap (((⟨#[70, 66, 67, 70, 1]⟩ : ByteArray)[4]'(by decide)).toNat : Int) = 1 by decide +kernel]
      simp
      omega
     clear HE hv
     go_upto_region 3 with fail
     go_region_with (first | (go_at_call 97; refine hn.mono ?_; rintro e w1 ⟨rfl, ho⟩; have hf1 := HF.out w1 ho))
     all_goals go_wp2_with (go_at_call 98; refine hf1.mono ?_; rintro e w2 ⟨rfl, ho2⟩)
     all_goals go_roundg 0
     all_goals first | omega | exact ⟨5, by omega, rfl, hd (HN.out w1 w2 ho ho2)⟩
end
end Go.Proofs.YthhcecllejddeaaGreatDoor

namespace Go.Proofs.YthhcecllejddeaaGreatDoor
open Go.RowKit
def labC (l : List Nat) : List Value := l.map fun n : Nat => Value.int .u64 (n : Int)
theorem labC_len (l : List Nat) : (labC l).length = l.length * 1 := by simp [labC]
theorem labC_at (l : List Nat) (k : Nat) (h : k < l.length) : (labC l)[k]? = some (.int .u64 ((l.getD k 0 : Nat) : Int)) := by simp [labC, List.getD_eq_getElem?_getD, List.getElem?_eq_getElem h]
theorem labC_one (l : List Nat) : ∀ u ∈ labC l, u.oneCell' = true := by
 intro u hu
 obtain ⟨x, _, rfl⟩ := List.mem_map.mp hu
 rfl
theorem labC_app (l m : List Nat) : labC l ++ labC m = labC (l ++ m) := by simp [labC]
theorem rd_lab {w : World} {a : Option Addr} {l : List Nat} (h : Rd w a (labC l)) (hl : 0 < l.length) : ∃ b off, a = some ⟨b, off, none⟩ ∧ ∀ i, i < l.length → w.cell? ⟨b, off + i, none⟩ = some (.int .u64 ((l.getD i 0 : Nat) : Int)) := by
 obtain ⟨b, o, rfl, _⟩ := h 0 _ (labC_at l 0 hl)
 refine ⟨b, o, rfl, fun i hi => ?_⟩
 obtain ⟨b', o', e, hc⟩ := h i _ (labC_at l i hi)
 cases e
 exact hc
theorem lb_same {l : List Nat} {k : Nat} (_h1 : 1 ≤ k) (h : k < l.length) (e : l.getD k 0 = l.getD (k - 1) 0) : lbFrom l (l.length - k) k = (8, k) := by
 rw [show l.length - k = (l.length - (k + 1)) + 1 by omega, lbFrom, if_pos e]
theorem lb_less {l : List Nat} {k : Nat} (_h1 : 1 ≤ k) (h : k < l.length) (e : l.getD k 0 < l.getD (k - 1) 0) : lbFrom l (l.length - k) k = (7, k) := by
 rw [show l.length - k = (l.length - (k + 1)) + 1 by omega, lbFrom, if_neg (by omega), if_pos e]
theorem lb_next {l : List Nat} {k : Nat} (_h1 : 1 ≤ k) (h : k < l.length) (e : l.getD (k - 1) 0 < l.getD k 0) : lbFrom l (l.length - k) k = lbFrom l (l.length - (k + 1)) (k + 1) := by
 rw [show l.length - k = (l.length - (k + 1)) + 1 by omega, lbFrom, if_neg (by omega), if_neg (by omega)]
theorem lb_start {l : List Nat} (h0 : l.length ≠ 0) (h8 : l.length ≤ 8) : lbL l = lbFrom l (l.length - 1) 1 := by
 unfold lbL
 rw [if_neg h0, if_neg (by omega)]
set_option maxRecDepth 100000 in
set_option maxHeartbeats 2000000 in
theorem tmay_any (a : Option Addr) (cap : Nat) (l : List Nat) (w : World) (hC : Rd w a (labC l)) :
  Calls Tryz.prog 68 #[.slice a l.length cap] w fun e w' => e = .returned (.tuple #[.int .i64 (lbL l).1, .int .i64 (lbL l).2]) ∧ ∃ n, w' = w.drewN n := by
 by_cases h0 : l.length = 0
 ·have e1 : lbL l = (1, 0) := by unfold lbL; rw [if_pos h0]
  rw [e1]
  have h0' : ((l.length : Int) == 0) = true := by rw [beq_iff_eq]; omega
  clear h0 e1 hC
  generalize l.length = len at *
  go_enter Tryz.func68, Tryz.ntmps68
  go_wp2
  go_ret2
  exact ⟨rfl, 0, rfl⟩
 ·by_cases h8 : 8 < l.length
  ·have e1 : lbL l = (3, 8) := by unfold lbL; rw [if_neg h0, if_pos h8]
   rw [e1]
   have h0' : ((l.length : Int) == 0) = false := by rw [beq_eq_false_iff_ne]; omega
   have h8' : (8 : Int) < (l.length : Int) := by omega
   clear h0 e1 hC h8
   generalize l.length = len at *
   go_enter Tryz.func68, Tryz.ntmps68
   go_wp2
   go_ret2
   exact ⟨rfl, 0, rfl⟩
  ·have hS : Hid (lbL l = lbFrom l (l.length - 1) 1) := lb_start h0 (by omega)
   obtain ⟨b, off, rfl, hc⟩ := rd_lab hC (by omega)
   replace hc := hd hc
   clear hC
   have h0' : ((l.length : Int) == 0) = false := by rw [beq_eq_false_iff_ne]; omega
   have h8' : (l.length : Int) ≤ 8 := by omega
   have h8d : decide ((8 : Int) < (l.length : Int)) = false := by simp; omega
   go_enter Tryz.func68, Tryz.ntmps68
   go_wp2
   go_loopw [4] (fun i wr => ∃ k : Nat, 1 ≤ k ∧ k ≤ l.length ∧ i = .int .i64 k ∧ Hid (lbL l = lbFrom l (l.length - k) k) ∧ ∃ n, wr = w.drewN n) (fun i _ => l.length - (intOf i).toNat)
   case atStart => exact ⟨1, by omega, by omega, rfl, hS, 0, rfl⟩
   case round =>
    obtain ⟨k, hk1, hk, rfl, hm, n, rfl⟩ := hrel
    by_cases hlt : k < l.length
    ·have hx : w.cell? ⟨b, off + k, none⟩ = some (.int .u64 (l.getD k 0 : Nat)) := hc.out k hlt
     have hy : w.cell? ⟨b, off + (k - 1), none⟩ = some (.int .u64 (l.getD (k - 1) 0 : Nat)) := hc.out (k - 1) (by omega)
     have hlt' : (k : Int) < (l.length : Int) := by omega
     have hk1' : (1 : Int) ≤ (k : Int) := by omega
     rcases Nat.lt_trichotomy (l.getD k 0) (l.getD (k - 1) 0) with hcmp | hcmp | hcmp
     ·have H : Hid (lbL l = (7, k)) := hm.out.trans (lb_less hk1 hlt hcmp)
      clear hm hS
      generalize l.getD k 0 = x at *
      generalize l.getD (k - 1) 0 = y at *
      have t1 : ((x : Int) == (y : Int)) = false := by simp; omega
      have t2 : (x : Int) < (y : Int) := by omega
      clear hcmp
      go_wp2_with fail
      go_quiet (fail)
      go_wp2_with fail
      go_quiet (fail)
      go_wp2
      go_ret2
      exact ⟨by rw [H.out]; rfl, by simp only [World.drewN_drewN]; exact ⟨_, rfl⟩⟩
     ·have H : Hid (lbL l = (8, k)) := hm.out.trans (lb_same hk1 hlt hcmp)
      clear hm hS
      generalize l.getD k 0 = x at *
      generalize l.getD (k - 1) 0 = y at *
      have t1 : ((x : Int) == (y : Int)) = true := by simp; omega
      clear hcmp
      go_wp2_with fail
      go_quiet (fail)
      go_wp2
      go_ret2
      exact ⟨by rw [H.out]; rfl, by simp only [World.drewN_drewN]; exact ⟨_, rfl⟩⟩
     ·have H : Hid (lbL l = lbFrom l (l.length - (k + 1)) (k + 1)) := hm.out.trans (lb_next hk1 hlt hcmp)
      clear hm hS
      generalize l.getD k 0 = x at *
      generalize l.getD (k - 1) 0 = y at *
      have t1 : ((x : Int) == (y : Int)) = false := by simp; omega
      have t2 : decide ((x : Int) < (y : Int)) = false := by simp; omega
      have t3 : (y : Int) ≤ (x : Int) := by omega
      clear hcmp
      go_wp2_with fail
      go_quiet (fail)
      go_wp2_with fail
      go_quiet (fail)
      go_wp2
      exact ⟨⟨k + 1, by omega, by omega, by go_num, H, _, rfl⟩, by simp [intOf]; omega⟩
    ·have e : k = l.length := by omega
     have H : Hid (lbL l = (0, 0)) := by show _ = _; rw [hm.out, e, Nat.sub_self]; rfl
     clear hm hS
     have hlt' : decide ((k : Int) < (l.length : Int)) = false := by simp; omega
     have hge : (l.length : Int) ≤ (k : Int) := by omega
     go_wp2
     go_ret2
     exact ⟨by rw [H.out]; rfl, n, rfl⟩
set_option maxRecDepth 100000 in
set_option maxHeartbeats 2000000 in
theorem rtmay_any (a : Option Addr) (cap : Nat) (l : List Nat) (w : World) (hC : Rd w a (labC l)) :
  Calls Tryz.prog 55 #[.slice a l.length cap] w fun e w' => e = .returned (.tuple #[.int .i64 (lbL l).1, .int .i64 (lbL l).2]) ∧ ∃ n, w' = w.drewN n := by
 by_cases h0 : l.length = 0
 ·have e1 : lbL l = (1, 0) := by unfold lbL; rw [if_pos h0]
  rw [e1]
  have h0' : ((l.length : Int) == 0) = true := by rw [beq_iff_eq]; omega
  clear h0 e1 hC
  generalize l.length = len at *
  go_enter Tryz.func55, Tryz.ntmps55
  go_wp2
  go_ret2
  exact ⟨rfl, 0, rfl⟩
 ·by_cases h8 : 8 < l.length
  ·have e1 : lbL l = (3, 8) := by unfold lbL; rw [if_neg h0, if_pos h8]
   rw [e1]
   have h0' : ((l.length : Int) == 0) = false := by rw [beq_eq_false_iff_ne]; omega
   have h8' : (8 : Int) < (l.length : Int) := by omega
   clear h0 e1 hC h8
   generalize l.length = len at *
   go_enter Tryz.func55, Tryz.ntmps55
   go_wp2
   go_ret2
   exact ⟨rfl, 0, rfl⟩
  ·have hS : Hid (lbL l = lbFrom l (l.length - 1) 1) := lb_start h0 (by omega)
   obtain ⟨b, off, rfl, hc⟩ := rd_lab hC (by omega)
   replace hc := hd hc
   clear hC
   have h0' : ((l.length : Int) == 0) = false := by rw [beq_eq_false_iff_ne]; omega
   have h8' : (l.length : Int) ≤ 8 := by omega
   have h8d : decide ((8 : Int) < (l.length : Int)) = false := by simp; omega
   go_enter Tryz.func55, Tryz.ntmps55
   go_wp2
   go_loopw [4] (fun i wr => ∃ k : Nat, 1 ≤ k ∧ k ≤ l.length ∧ i = .int .i64 k ∧ Hid (lbL l = lbFrom l (l.length - k) k) ∧ ∃ n, wr = w.drewN n) (fun i _ => l.length - (intOf i).toNat)
   case atStart => exact ⟨1, by omega, by omega, rfl, hS, 0, rfl⟩
   case round =>
    obtain ⟨k, hk1, hk, rfl, hm, n, rfl⟩ := hrel
    by_cases hlt : k < l.length
    ·have hx : w.cell? ⟨b, off + k, none⟩ = some (.int .u64 (l.getD k 0 : Nat)) := hc.out k hlt
     have hy : w.cell? ⟨b, off + (k - 1), none⟩ = some (.int .u64 (l.getD (k - 1) 0 : Nat)) := hc.out (k - 1) (by omega)
     have hlt' : (k : Int) < (l.length : Int) := by omega
     have hk1' : (1 : Int) ≤ (k : Int) := by omega
     rcases Nat.lt_trichotomy (l.getD k 0) (l.getD (k - 1) 0) with hcmp | hcmp | hcmp
     ·have H : Hid (lbL l = (7, k)) := hm.out.trans (lb_less hk1 hlt hcmp)
      clear hm hS
      generalize l.getD k 0 = x at *
      generalize l.getD (k - 1) 0 = y at *
      have t1 : ((x : Int) == (y : Int)) = false := by simp; omega
      have t2 : (x : Int) < (y : Int) := by omega
      clear hcmp
      go_wp2_with fail
      go_quiet (fail)
      go_wp2_with fail
      go_quiet (fail)
      go_wp2
      go_ret2
      exact ⟨by rw [H.out]; rfl, by simp only [World.drewN_drewN]; exact ⟨_, rfl⟩⟩
     ·have H : Hid (lbL l = (8, k)) := hm.out.trans (lb_same hk1 hlt hcmp)
      clear hm hS
      generalize l.getD k 0 = x at *
      generalize l.getD (k - 1) 0 = y at *
      have t1 : ((x : Int) == (y : Int)) = true := by simp; omega
      clear hcmp
      go_wp2_with fail
      go_quiet (fail)
      go_wp2
      go_ret2
      exact ⟨by rw [H.out]; rfl, by simp only [World.drewN_drewN]; exact ⟨_, rfl⟩⟩
     ·have H : Hid (lbL l = lbFrom l (l.length - (k + 1)) (k + 1)) := hm.out.trans (lb_next hk1 hlt hcmp)
      clear hm hS
      generalize l.getD k 0 = x at *
      generalize l.getD (k - 1) 0 = y at *
      have t1 : ((x : Int) == (y : Int)) = false := by simp; omega
      have t2 : decide ((x : Int) < (y : Int)) = false := by simp; omega
      have t3 : (y : Int) ≤ (x : Int) := by omega
      clear hcmp
      go_wp2_with fail
      go_quiet (fail)
      go_wp2_with fail
      go_quiet (fail)
      go_wp2
      exact ⟨⟨k + 1, by omega, by omega, by go_num, H, _, rfl⟩, by simp [intOf]; omega⟩
    ·have e : k = l.length := by omega
     have H : Hid (lbL l = (0, 0)) := by show _ = _; rw [hm.out, e, Nat.sub_self]; rfl
     clear hm hS
     have hlt' : decide ((k : Int) < (l.length : Int)) = false := by simp; omega
     have hge : (l.length : Int) ≤ (k : Int) := by omega
     go_wp2
     go_ret2
     exact ⟨by rw [H.out]; rfl, n, rfl⟩
end Go.Proofs.YthhcecllejddeaaGreatDoor

namespace Go.Proofs.YthhcecllejddeaaGreatDoor
open Go.RowKit
theorem lb_snoc_at (l : List Nat) (v : Nat) : ∀ m i, 1 ≤ i → i + m = l.length → (lbFrom l m i).1 = 0 → lbFrom (l ++ [v]) (m + 1) i = lbFrom (l ++ [v]) 1 l.length
 | 0, i, _, h, _ => by rw [show i = l.length by omega]
 | m + 1, i, h1, h, h0 => by
  have e1 : (l ++ [v]).getD i 0 = l.getD i 0 := by rw [List.getD_eq_getElem?_getD, List.getElem?_append_left (by omega), ← List.getD_eq_getElem?_getD]
  have e2 : (l ++ [v]).getD (i - 1) 0 = l.getD (i - 1) 0 := by rw [List.getD_eq_getElem?_getD, List.getElem?_append_left (by omega), ← List.getD_eq_getElem?_getD]
  rw [lbFrom] at h0
  rw [lbFrom, e1, e2]
  by_cases h2 : l.getD i 0 = l.getD (i - 1) 0
  ·rw [if_pos h2] at h0
   simp at h0
  ·rw [if_neg h2] at h0 ⊢
   by_cases h3 : l.getD i 0 < l.getD (i - 1) 0
   ·rw [if_pos h3] at h0
    simp at h0
   ·rw [if_neg h3] at h0 ⊢
    exact lb_snoc_at l v m (i + 1) (by omega) (by omega) h0
theorem lb_snoc (l : List Nat) (v : Nat) (h : l = [] ∨ (lbL l).1 = 0) (h8 : l.length < 8) : ((lbL (l ++ [v])).1 : Int) = labE l v := by
 have e0 : lbL (l ++ [v]) = lbFrom (l ++ [v]) l.length 1 := by
  rw [lb_start (by simp) (by simp; omega)]
  simp
 rw [e0]
 by_cases hl : l.length = 0
 ·have : l = [] := List.eq_nil_of_length_eq_zero hl
  subst this
  rfl
 ·have h0 : (lbFrom l (l.length - 1) 1).1 = 0 := by
   rcases h with rfl | h
   ·simp at hl
   ·rw [lb_start hl (by omega)] at h
    exact h
  have e1 := lb_snoc_at l v (l.length - 1) 1 (by omega) (by omega) h0
  rw [show l.length - 1 + 1 = l.length by omega] at e1
  have e2 : (l ++ [v]).getD l.length 0 = v := by simp
  have e3 : (l ++ [v]).getD (l.length - 1) 0 = l.getD (l.length - 1) 0 := by rw [List.getD_eq_getElem?_getD, List.getElem?_append_left (by omega), ← List.getD_eq_getElem?_getD]
  rw [e1, lbFrom, e2, e3]
  unfold labE
  rw [if_neg hl]
  by_cases h2 : v = l.getD (l.length - 1) 0
  ·rw [if_pos h2, if_pos h2]; rfl
  ·rw [if_neg h2, if_neg h2]
   by_cases h3 : v < l.getD (l.length - 1) 0
   ·rw [if_pos h3, if_pos h3]; rfl
   ·rw [if_neg h3, if_neg h3]; rfl
theorem push_any {T e : TypeId} {z : Value} {size bytes : Nat} (hu : Tryz.prog.underlying T = some (.slice e)) (hinfo : (Tryz.prog.info? e).map (fun i => (i.zero, i.size, i.bytes)) = some (some z, size, bytes)) (hzs : z.cells.size = size) (hb64 : bytes ≤ 64)
  {w : World} {a : Option Addr} {n c : Nat} {xs : List Value} (hR : Row w e size a n c xs) (hn : n ≤ 1000000000000) (us : List Value) (hus : us.length = size) (h1 : ∀ u ∈ us, u.oneCell' = true) :
  ∃ a' c' w', (∀ ty, (Builtin.append_ #[T, T] ty #[.slice a n c, .slice (some ⟨w.heap.size, 0, none⟩) 1 1]).run Tryz.prog (w.alloc (.cells us.toArray e)) = .ok (.slice a' (n + 1) c') w') ∧
   Row w' e size a' (n + 1) c' (xs ++ us) ∧ Mod (fun k => blk a = some k) w w' ∧ (∀ k, blk a' = some k → blk a = some k ∨ w.heap.size ≤ k) := by
 obtain ⟨i, k1, k2, k3, k4⟩ := info_parts hinfo
 have hb := below_al w (.cells us.toArray e)
 have hh := heap_alloc_new w (.cells us.toArray e)
 have hs : Src Tryz.prog size T (.slice (some ⟨w.heap.size, 0, none⟩) 1 1) 1 us (w.alloc (.cells us.toArray e)) := by
  refine Src.ofSlice _ hu _ _ _ _ (by omega) (fun j u hj => ?_) h1
  rw [addr_add, cell_of_row _ _ _ _ _ _ hh, Nat.zero_add]
  simpa using hj
 obtain ⟨a', c', w', m1, m2, m3, m4, _⟩ := run_append_row (P := Tryz.prog) _ T e i _ size bytes hu k1 k2 k3 k4 hzs (hR.below hb) _ 1 _ hs (by unfold maxLen; omega) (by
  have : (n + 1) * bytes ≤ (n + 1) * 64 := Nat.mul_le_mul_left _ hb64
  omega)
 refine ⟨a', c', w', m1, m2, (Mod.of_below _ hb).trans m3 (fun _ h => .inl h), fun k hk => ?_⟩
 rcases m4 k hk with h | h
 ·exact .inl h
 ·exact .inr (by have := hb.size; omega)
theorem wpList_append_run {P : Program} {w : World} {ops : Array Oper} {rest : List Oper} {o : Oper} {a : Act} {Q : Exit → Act → World → Prop} (hgd : o.guard = none) (s x : Operand) (t : TypeId)
  (ho : o.op = .call { callee := .builtin .append, args := #[s, x], argTypes := #[t, t] }) (v vx v' : Value) (w' : World) (hs : a.eval s = v) (hx : a.eval x = vx)
  (hrun : ∀ ty, (Builtin.append_ #[t, t] ty #[v, vx]).run P w = .ok v' w') (h : wpList P ops Q rest (a.put o.dst v') w') : wpList P ops Q (o :: rest) a w :=
 wpList_plain hgd fun K hK => by
  unfold Oper.wp execOp
  simp only [ho, resolve, invoke, builtin, Sem.run_bind, Sem.run_pure, Result.andThen_ok, List.map_toArray, List.map_cons, List.map_nil, hs, hx, hrun]
  exact hK _ _ h
theorem step_append_run {P : Program} {w : World} {ops : Array Oper} {o : Oper} {a : Act} {K : Act → World → Prop} {Q : Exit → Act → World → Prop} {E : Prop} (hgd : o.guard = none) (s x : Operand) (t : TypeId)
  (ho : o.op = .call { callee := .builtin .append, args := #[s, x], argTypes := #[t, t] }) (v vx v' : Value) (w' : World) (hs : a.eval s = v) (hx : a.eval x = vx)
  (hrun : ∀ ty, (Builtin.append_ #[t, t] ty #[v, vx]).run P w = .ok v' w') (h : K (a.put o.dst v') w') : if Region.wanted o (yielded ops a.tmps) = true then Oper.wp P o a w K Q else E := by
 have hw : Region.wanted o (yielded ops a.tmps) = true := by simp [Region.wanted, hgd]
 rw [if_pos hw]
 unfold Oper.wp execOp
 simp only [ho, resolve, invoke, builtin, Sem.run_bind, Sem.run_pure, Result.andThen_ok, List.map_toArray, List.map_cons, List.map_nil, hs, hx, hrun]
 exact h
theorem info_u64 : (Tryz.prog.info? 29).map (fun i => (i.zero, i.size, i.bytes)) = some (some (.int .u64 0), 1, 8) := by kernel_rfl
theorem info_int : (Tryz.prog.info? 3).map (fun i => (i.zero, i.size, i.bytes)) = some (some (.int .i64 0), 1, 8) := by kernel_rfl
theorem info_insn : (Tryz.prog.info? 54).map (fun i => (i.zero, i.size, i.bytes)) = some (some (.agg #[.int .i64 0, .int .i64 0, .int .i64 0, .int .i64 0, .int .i64 0]), 5, 40) := by kernel_rfl
theorem info_proc : (Tryz.prog.info? 57).map (fun i => (i.zero, i.size, i.bytes)) = some (some (.agg #[.int .i64 0, .slice none 0 0]), 2, 32) := by kernel_rfl
structure MkI (w : World) (r : Nat) (a : Option Addr) (cap : Nat) (bs : List Nat) (s : St) (wr : World) (e size : Nat) (a1 : Option Addr) (n c1 : Nat) (xs : List Value) : Prop where
 out : ROut w r a cap bs s wr
 row : Row wr e size a1 n c1 xs
 new : ∀ k, blk a1 = some k → w.heap.size ≤ k
section
variable {w wr w1 : World} {r : Nat} {a : Option Addr} {cap : Nat} {bs : List Nat} {s s' : St} {e size n c1 : Nat} {a1 : Option Addr} {xs : List Value}
theorem MkI.step (h : MkI w r a cap bs s wr e size a1 n c1 xs) (hr : r < w.heap.size) (o : ROut wr r a cap bs s' w1) : MkI w r a cap bs s' w1 e size a1 n c1 xs :=
 ⟨h.out.trans o, h.row.mod o.2 (fun k hk e => by have := h.new k hk; omega), h.new⟩
theorem MkI.after (h : MkI w r a cap bs s wr e size a1 n c1 xs) (hb : Below wr.heap.size wr w1) : MkI w r a cap bs s w1 e size a1 n c1 xs :=
 ⟨h.out.after hb, h.row.below hb, h.new⟩
theorem Rd.apart {S : Nat → Prop} {B : Nat} {w w' w0 : World} {a : Option Addr} {xs : List Value} (h0 : Rd w0 a xs) (h : Rd w a xs) (hm : Mod S w w') (hs : ∀ k, S k → B ≤ k) (hB : B = w0.heap.size) : Rd w' a xs := fun j u hj => by
 obtain ⟨b, o, rfl, hc⟩ := h j u hj
 obtain ⟨b', o', e, hc0⟩ := h0 j u hj
 cases e
 have hl := World.block_lt_of_cell? w0 _ hc0
 refine ⟨b, o, rfl, ?_⟩
 rw [hm.cell (p := ⟨b, o + j, none⟩) (World.block_lt_of_cell? w _ hc) (fun k => by have := hs _ k; simp only at this hl; omega)]
 exact hc
theorem MkI.push {T : TypeId} {z : Value} {bytes : Nat} (h : MkI w r a cap bs s wr e size a1 n c1 xs) (h0 : RdAt w r a cap bs s') (hu : Tryz.prog.underlying T = some (.slice e)) (hinfo : (Tryz.prog.info? e).map (fun i => (i.zero, i.size, i.bytes)) = some (some z, size, bytes)) (hzs : z.cells.size = size) (hb64 : bytes ≤ 64)
  (hn : n ≤ 1000000000000) (us : List Value) (hus : us.length = size) (h1 : ∀ u ∈ us, u.oneCell' = true) :
  ∃ a' c' w', (∀ ty, (Builtin.append_ #[T, T] ty #[.slice a1 n c1, .slice (some ⟨wr.heap.size, 0, none⟩) 1 1]).run Tryz.prog (wr.alloc (.cells us.toArray e)) = .ok (.slice a' (n + 1) c') w') ∧ MkI w r a cap bs s w' e size a' (n + 1) c' (xs ++ us) := by
 obtain ⟨a', c', w', k1, k2, k3, k4⟩ := push_any hu hinfo hzs hb64 h.row hn us hus h1
 have hr := h0.lt
 refine ⟨a', c', w', k1, ⟨⟨?_, h.out.2.trans k3 (fun i hi => .inr (h.new i hi))⟩, k2, fun k hk => ?_⟩⟩
 ·have o := h.out.1
  refine ⟨?_, Rd.apart h0.rd o.rd k3 h.new rfl, o.ne, o.byte, o.le, o.room, o.nx, o.fr⟩
  rw [k3.block r o.lt (fun e => by have := h.new r e; omega)]
  exact o.obj
 ·rcases k4 k hk with h' | h'
  ·exact h.new k h'
  ·have := h.out.2.size
   omega
end
end Go.Proofs.YthhcecllejddeaaGreatDoor

namespace Go.Proofs.YthhcecllejddeaaGreatDoor
open Go.RowKit
def labI (w : World) (r : Nat) (a : Option Addr) (cap : Nat) (bs : List Nat) (p n : Nat) (wr : World) (a1 : Option Addr) (c1 : Nat) (l : List Nat) (s : St) : Prop :=
 MkI w r a cap bs s wr 29 1 a1 l.length c1 (labC l) ∧ Stage (labP bs p) s (repP (fun acc => numP 8 (labE acc)) (n - l.length) l bs s.nx) ∧ (s.e = 0 → n ≤ 8 ∧ (l = [] ∨ (lbL l).1 = 0))
theorem numS_lt8 {bs : List Nat} {s : St} (hb : Byte bs) : (numS bs 8 s).1 < 18446744073709551616 := by
 unfold numS
 split
 ·simp
 ·split
  ·simp
  ·exact sum_lt8 (j := 8) (sumB_lt bs s.nx hb 8) (by omega)
def labOut (w : World) (r : Nat) (a : Option Addr) (cap : Nat) (bs : List Nat) (p : Nat) (a1 : Option Addr) (c1 : Nat) (l : List Nat) (w' : World) : Prop :=
 ∃ s, MkI w r a cap bs s w' 29 1 a1 l.length c1 (labC l) ∧ Stage (labP bs p) s (pure_ l bs s.nx) ∧ l.length ≤ 255
section
variable {w : World} {r : Nat} {a : Option Addr} {cap : Nat} {bs : List Nat} {s : St}
set_option maxRecDepth 100000 in
set_option maxHeartbeats 4000000 in
theorem labels_any (h : RdAt w r a cap bs s) (h0 : s.e = 0 ∧ s.at_ = 0) :
  Calls Tryz.prog 61 #[.pointer (some ⟨r, 0, none⟩)] w fun e w' => ∃ a1 c1 l, e = .returned (.slice a1 (List.length l) c1) ∧ labOut w r a cap bs s.nx a1 c1 l w' := by
 have hc := count_any h 8
 have hlt := numS_lt (s := s) h.byte 1 (by omega)
 have H := hd h
 have HI : Hid (∀ W, ROut w r a cap bs (chkS bs 1 (fun n => cntE 8 n) s).2 W → labI w r a cap bs s.nx (chkS bs 1 (fun n => cntE 8 n) s).1 W none 0 [] (chkS bs 1 (fun n => cntE 8 n) s).2) := hd (by
  intro W o
  refine ⟨⟨o, Row.nil, fun k hk => by cases hk⟩, ?_, fun hz => ⟨?_, .inl rfl⟩⟩
  ·exact Stage.chk (g := fun n => repP (fun acc => numP 8 (labE acc)) n []) (.inl ⟨h0.1, h0.2, rfl⟩)
  ·have := cnt_len (chk_val hz).2.1
   omega)
 have hn255 : (chkS bs 1 (fun n => cntE 8 n) s).1 ≤ 255 := by
  unfold chkS numS
  split
  ·simp
  ·split
   ·simp
   ·have := sumB_lt bs s.nx h.byte 1
    simp only
    omega
 clear h h0 hlt
 generalize (chkS bs 1 (fun n => cntE 8 n) s).1 = n at *
 generalize (chkS bs 1 (fun n => cntE 8 n) s).2 = s1 at *
 generalize s.nx = p at *
 go_enter Tryz.func61, Tryz.ntmps61
 go_upto_block 0 with (go_at_call 64; refine hc.mono ?_; rintro e w1 ⟨rfl, ho⟩)
 have HJ := hd (HI.out _ ho)
 clear HI hc ho
 go_wp2_with fail
 go_loopg [3, 5, 6, 9, 10, 11, 12, 13, 14, 15, 16, 17, 18, 19, 20, 21, 22, 23, 24, 25, 26, 27, 28, 29, 30, 31, 32, 33, 34] n (fun g v3 v5 v6 v9 v10 v11 v12 v13 v14 v15 v16 v17 v18 v19 v20 v21 v22 v23 v24 v25 v26 v27 v28 v29 v30 v31 v32 v33 v34 wr => ∃ (l : List Nat) (len : Nat) (a1 : Option Addr) (c1 : Nat) (s' : St), v3 = .slice a1 len c1 ∧ len + g = n ∧ Hid (l.length = len) ∧ Hid (labI w r a cap bs p n wr a1 c1 l s'))
 case atStart => exact ⟨[], 0, none, 0, s1, rfl, by omega, hd rfl, HJ⟩
 case round =>
  clear HJ
  obtain ⟨l, len, a1, c1, s', rfl, hlen, HL, HW⟩ := hrel
  by_cases h0 : gk = 0
  ·subst h0
   have hge : decide ((len : Int) < (n : Int)) = false := by simp; omega
   have hge' : (n : Int) ≤ (len : Int) := by omega
   have HE : Hid (∃ l', Ending.returned (.slice a1 len c1) = .returned (.slice a1 (List.length l') c1) ∧ labOut w r a cap bs p a1 c1 l' wr) := hd (by
    refine ⟨l, by rw [HL.out], s', HW.out.1, ?_, by have := HL.out; omega⟩
    have := HW.out.2.1
    rw [show n - l.length = 0 by have := HL.out; omega] at this
    exact this)
   clear HW HL
   go_wp2_with fail
   go_ret
   obtain ⟨l', h1, h2⟩ := HE.out
   exact ⟨a1, c1, l', h1, h2⟩
  ·have hlt : (len : Int) < (n : Int) := by omega
   by_cases hz : s'.e = 0
   ·have hf := failed_any HW.out.1.out.1 false (by simp [hz])
    have hnum := rnum_any HW.out.1.out.1 8 ⟨by omega, by omega⟩
    have hu := numS_lt8 (s := s') HW.out.1.out.1.byte
    have HP : Hid (∀ W, ROut wr r a cap bs (numS bs 8 s').2 W → ∃ a' c' w', (∀ ty, (Builtin.append_ #[23, 23] ty #[.slice a1 len c1, .slice (some ⟨W.heap.size, 0, none⟩) 1 1]).run Tryz.prog (W.alloc (.cells #[.int .u64 ((numS bs 8 s').1 : Nat)] 29)) = .ok (.slice a' (len + 1) c') w') ∧ MkI w r a cap bs (numS bs 8 s').2 w' 29 1 a' (len + 1) c' (labC (l ++ [(numS bs 8 s').1]))) := hd (by
     intro W o
     have h1 := HW.out.1.step H.out.lt o
     rw [HL.out] at h1
     obtain ⟨a', c', w', k1, k2⟩ := h1.push H.out Tryz.underlying23 info_u64 rfl (by omega) (by omega) [.int .u64 ((numS bs 8 s').1 : Nat)] rfl (labC_one [(numS bs 8 s').1])
     refine ⟨a', c', w', k1, ?_⟩
     rw [← labC_app]
     exact k2)
    have HN : Hid (∀ (W W2 : World) a' c', MkI w r a cap bs (numS bs 8 s').2 W 29 1 a' (len + 1) c' (labC (l ++ [(numS bs 8 s').1])) → ROut W r a cap bs (failS (numS bs 8 s').2 ((lbL (l ++ [(numS bs 8 s').1])).1 : Nat) (numS bs 8 s').2.fr) W2 → ∃ s'', labI w r a cap bs p n W2 a' c' (l ++ [(numS bs 8 s').1]) s'') := hd (by
     intro W W2 a' c' hm o
     have hg := HW.out.2.2 hz
     have hll := HL.out
     rw [lb_snoc l _ hg.2 (by omega)] at o
     have hst := HW.out.2.1
     rw [show n - l.length = (n - (l.length + 1)) + 1 by omega] at hst
     have h2 := Stage.chk hst
     refine ⟨(chkS bs 8 (labE l) s').2, ?_, ?_, ?_⟩
     ·have := hm.step H.out.lt o
      rw [← hll, show l.length + 1 = (l ++ [(numS bs 8 s').1]).length by simp] at this
      exact this
     ·rw [show n - (l ++ [(numS bs 8 s').1]).length = n - (l.length + 1) by simp]
      exact h2
     ·intro hz2
      refine ⟨hg.1, .inr ?_⟩
      have h3 := (chk_val hz2).2.1
      have h4 := lb_snoc l (numS bs 8 s').1 hg.2 (by omega)
      have h5 : (chkS bs 8 (labE l) s').1 = (numS bs 8 s').1 := rfl
      rw [h5] at h3
      omega)
    clear HW h0 hz
    have HM : Hid (∀ (W : World) a' c', MkI w r a cap bs (numS bs 8 s').2 W 29 1 a' (len + 1) c' (labC (l ++ [(numS bs 8 s').1])) → Calls Tryz.prog 68 #[.slice a' (len + 1 : Nat) c'] W fun e w' => e = .returned (.tuple #[.int .i64 ((lbL (l ++ [(numS bs 8 s').1])).1 : Nat), .int .i64 ((lbL (l ++ [(numS bs 8 s').1])).2 : Nat)]) ∧ ∃ n, w' = W.drewN n) := hd (by
     intro W a' c' hm
     have := tmay_any a' c' (l ++ [(numS bs 8 s').1]) W hm.row.rd
     rw [show (l ++ [(numS bs 8 s').1]).length = len + 1 by simp [HL.out]] at this
     exact this)
    have HLL := HL
    clear HL
    generalize (numS bs 8 s').1 = v at *
    generalize (numS bs 8 s').2 = s2 at *
    generalize (lbL (l ++ [v])).1 = E at *
    generalize (lbL (l ++ [v])).2 = F at *
    go_upto_region 4 with (go_at_call 60; refine hf.mono ?_; rintro e w1 ⟨rfl, rfl⟩)
    go_upto_region 5 with (first | (go_at_call 99; refine hnum.mono ?_; rintro e w2 ⟨rfl, ho⟩; obtain ⟨a', c', w3, hap, hm⟩ := HP.out w2 ho; replace hap := hd hap) | (at_builtin; refine wpList_append_run rfl _ _ _ rfl _ _ _ _ rfl rfl hap.out ?_; clear hap))
    have hmay := HM.out w3 a' c' hm
    have HM3 := hd hm
    clear HM HP hnum hm
    go_upto_region 6 with (go_at_call 68; refine hmay.mono ?_; rintro e w4 ⟨rfl, hw4⟩; replace hw4 := hd hw4)
    have hm4 : MkI w r a cap bs s2 w4 29 1 a' (len + 1) c' (labC (l ++ [v])) := by
     obtain ⟨nn, e4⟩ := hw4.out
     rw [e4]
     exact HM3.out.after (below_draw w3 nn)
    have k1 := hm4.out.1.cells.2.1
    have hfail := fail_any hm4.out.1 (E : Int) s2.fr
    have HM4 := hd hm4
    clear hm4 hw4 HM3 hmay
    go_wp2_with (go_at_call 98; refine hfail.mono ?_; rintro e w5 ⟨rfl, ho5⟩)
    obtain ⟨s'', hI⟩ := HN.out w4 w5 a' c' HM4.out ho5
    go_roundg (gk - 1)
    case rel => exact ⟨l ++ [v], len + 1, a', c', s'', rfl, by omega, hd (by rw [← HLL.out]; simp), hI⟩
    case measure => omega
   ·have hf := failed_any HW.out.1.out.1 true (by simp [hz])
    have HE : Hid (∃ l', Ending.returned (.slice a1 len c1) = .returned (.slice a1 (List.length l') c1) ∧ labOut w r a cap bs p a1 c1 l' wr) := hd (by
     refine ⟨l, by rw [HL.out], s', HW.out.1, ?_, by have := HL.out; omega⟩
     exact .inr ⟨hz, HW.out.2.1.bad hz⟩)
    clear HW HL h0 hz
    go_wp2_with (go_at_call 60; refine hf.mono ?_; rintro e w1 ⟨rfl, rfl⟩)
    go_ret
    obtain ⟨l', h1, h2⟩ := HE.out
    exact ⟨a1, c1, l', h1, h2⟩
end
end Go.Proofs.YthhcecllejddeaaGreatDoor

namespace Go.Proofs.YthhcecllejddeaaGreatDoor
open Go.RowKit
def natC (l : List Nat) : List Value := l.map fun n : Nat => Value.int .i64 (n : Int)
theorem natC_one (l : List Nat) : ∀ u ∈ natC l, u.oneCell' = true := by
 intro u hu
 obtain ⟨x, _, rfl⟩ := List.mem_map.mp hu
 rfl
theorem natC_app (l m : List Nat) : natC l ++ natC m = natC (l ++ m) := by simp [natC]
def tabI (w : World) (r : Nat) (a : Option Addr) (cap : Nat) (bs : List Nat) (P p n : Nat) (wr : World) (a1 : Option Addr) (c1 : Nat) (l : List Nat) (s : St) : Prop :=
 MkI w r a cap bs s wr 3 1 a1 l.length c1 (natC l) ∧ Stage (tabP P bs p) s (repP (fun _ => ptP P) (n - l.length) l bs s.nx)
def tabOut (w : World) (r : Nat) (a : Option Addr) (cap : Nat) (bs : List Nat) (P p : Nat) (a1 : Option Addr) (c1 : Nat) (l : List Nat) (w' : World) : Prop :=
 ∃ s, MkI w r a cap bs s w' 3 1 a1 l.length c1 (natC l) ∧ Stage (tabP P bs p) s (pure_ l bs s.nx) ∧ l.length ≤ 255
theorem chk_le255 {bs : List Nat} {s : St} {f : Nat → Int} (hb : Byte bs) : (chkS bs 1 f s).1 ≤ 255 := by
 unfold chkS numS
 split
 ·simp
 ·split
  ·simp
  ·have := sumB_lt bs s.nx hb 1
   simp only
   omega
section
variable {w : World} {r : Nat} {a : Option Addr} {cap : Nat} {bs : List Nat} {s : St}
set_option maxRecDepth 100000 in
set_option maxHeartbeats 4000000 in
theorem table_any (h : RdAt w r a cap bs s) (h0 : s.e = 0 ∧ s.at_ = 0) (P : Nat) (hP : P ≤ 1000000) :
  Calls Tryz.prog 62 #[.pointer (some ⟨r, 0, none⟩), .int .i64 P] w fun e w' => ∃ a1 c1 l, e = .returned (.slice a1 (List.length l) c1) ∧ tabOut w r a cap bs P s.nx a1 c1 l w' := by
 have hc := count_any h 64
 have H := hd h
 have HI : Hid (∀ W, ROut w r a cap bs (chkS bs 1 (fun n => cntE 64 n) s).2 W → tabI w r a cap bs P s.nx (chkS bs 1 (fun n => cntE 64 n) s).1 W none 0 [] (chkS bs 1 (fun n => cntE 64 n) s).2) := hd (by
  intro W o
  refine ⟨⟨o, Row.nil, fun k hk => by cases hk⟩, ?_⟩
  exact Stage.chk (g := fun n => repP (fun _ => ptP P) n []) (.inl ⟨h0.1, h0.2, rfl⟩))
 have hn255 : (chkS bs 1 (fun n => cntE 64 n) s).1 ≤ 255 := chk_le255 h.byte
 clear h h0
 generalize (chkS bs 1 (fun n => cntE 64 n) s).1 = n at *
 generalize (chkS bs 1 (fun n => cntE 64 n) s).2 = s1 at *
 generalize s.nx = p at *
 go_enter Tryz.func62, Tryz.ntmps62
 go_upto_block 0 with (go_at_call 64; refine hc.mono ?_; rintro e w1 ⟨rfl, ho⟩)
 have HJ := hd (HI.out _ ho)
 clear HI hc ho
 go_wp2_with fail
 go_loopg [5, 9, 10, 11, 12, 13, 14, 15, 16, 17, 18, 19, 20, 21, 22, 23] n (fun g v5 v9 v10 v11 v12 v13 v14 v15 v16 v17 v18 v19 v20 v21 v22 v23 wr => ∃ (l : List Nat) (len : Nat) (a1 : Option Addr) (c1 : Nat) (s' : St), v5 = .slice a1 len c1 ∧ len + g = n ∧ Hid (l.length = len) ∧ Hid (tabI w r a cap bs P p n wr a1 c1 l s'))
 case atStart => exact ⟨[], 0, none, 0, s1, rfl, by omega, hd rfl, HJ⟩
 case round =>
  clear HJ
  obtain ⟨l, len, a1, c1, s', rfl, hlen, HL, HW⟩ := hrel
  by_cases h0 : gk = 0
  ·subst h0
   have hge : decide ((len : Int) < (n : Int)) = false := by simp; omega
   have hge' : (n : Int) ≤ (len : Int) := by omega
   have HE : Hid (∃ l', Ending.returned (.slice a1 len c1) = .returned (.slice a1 (List.length l') c1) ∧ tabOut w r a cap bs P p a1 c1 l' wr) := hd (by
    refine ⟨l, by rw [HL.out], s', HW.out.1, ?_, by have := HL.out; omega⟩
    have := HW.out.2
    rw [show n - l.length = 0 by have := HL.out; omega] at this
    exact this)
   clear HW HL
   go_wp2_with fail
   go_ret
   obtain ⟨l', h1, h2⟩ := HE.out
   exact ⟨a1, c1, l', h1, h2⟩
  ·have hlt : (len : Int) < (n : Int) := by omega
   by_cases hz : s'.e = 0
   ·have hf := failed_any HW.out.1.out.1 false (by simp [hz])
    have hnum := part_any HW.out.1.out.1 P hP
    have HP : Hid (∀ W, ROut wr r a cap bs (chkS bs 1 (fun n => rngE 0 ((P : Int) - 1) n) s').2 W → ∃ a' c' w', (∀ ty, (Builtin.append_ #[24, 24] ty #[.slice a1 len c1, .slice (some ⟨W.heap.size, 0, none⟩) 1 1]).run Tryz.prog (W.alloc (.cells #[.int .i64 ((chkS bs 1 (fun n => rngE 0 ((P : Int) - 1) n) s').1 : Nat)] 3)) = .ok (.slice a' (len + 1) c') w') ∧ ∃ s'', tabI w r a cap bs P p n w' a' c' (l ++ [(chkS bs 1 (fun n => rngE 0 ((P : Int) - 1) n) s').1]) s'') := hd (by
     intro W o
     have h1 := HW.out.1.step H.out.lt o
     rw [HL.out] at h1
     obtain ⟨a', c', w', k1, k2⟩ := h1.push H.out Tryz.underlying24 info_int rfl (by omega) (by omega) [.int .i64 ((chkS bs 1 (fun n => rngE 0 ((P : Int) - 1) n) s').1 : Nat)] rfl (natC_one [(chkS bs 1 (fun n => rngE 0 ((P : Int) - 1) n) s').1])
     refine ⟨a', c', w', k1, (chkS bs 1 (fun n => rngE 0 ((P : Int) - 1) n) s').2, ?_, ?_⟩
     ·rw [← natC_app, show (l ++ [(chkS bs 1 (fun n => rngE 0 ((P : Int) - 1) n) s').1]).length = len + 1 by simp [HL.out]]
      exact k2
     ·have hst := HW.out.2
      have hll := HL.out
      rw [show n - l.length = (n - (l.length + 1)) + 1 by omega] at hst
      rw [show n - (l ++ [(chkS bs 1 (fun n => rngE 0 ((P : Int) - 1) n) s').1]).length = n - (l.length + 1) by simp]
      exact Stage.chk hst)
    clear HW h0 hz
    generalize (chkS bs 1 (fun n => rngE 0 ((P : Int) - 1) n) s').1 = v at *
    generalize (chkS bs 1 (fun n => rngE 0 ((P : Int) - 1) n) s').2 = s2 at *
    go_wp2_with (first | (go_at_call 60; refine hf.mono ?_; rintro e w1 ⟨rfl, rfl⟩) | (go_at_call 65; refine hnum.mono ?_; rintro e w2 ⟨rfl, ho⟩; obtain ⟨a', c', w3, hap, s'', hI⟩ := HP.out w2 ho; replace hap := hd hap) | (at_builtin; refine wpList_append_run rfl _ _ _ rfl _ _ _ _ rfl rfl hap.out ?_; clear hap))
    go_roundg (gk - 1)
    case rel => exact ⟨l ++ [v], len + 1, a', c', s'', rfl, by omega, hd (by rw [← HL.out]; simp), hI⟩
    case measure => omega
   ·have hf := failed_any HW.out.1.out.1 true (by simp [hz])
    have HE : Hid (∃ l', Ending.returned (.slice a1 len c1) = .returned (.slice a1 (List.length l') c1) ∧ tabOut w r a cap bs P p a1 c1 l' wr) := hd (by
     refine ⟨l, by rw [HL.out], s', HW.out.1, ?_, by have := HL.out; omega⟩
     exact .inr ⟨hz, HW.out.2.bad hz⟩)
    clear HW HL h0 hz
    go_wp2_with (go_at_call 60; refine hf.mono ?_; rintro e w1 ⟨rfl, rfl⟩)
    go_ret
    obtain ⟨l', h1, h2⟩ := HE.out
    exact ⟨a1, c1, l', h1, h2⟩
end
end Go.Proofs.YthhcecllejddeaaGreatDoor
