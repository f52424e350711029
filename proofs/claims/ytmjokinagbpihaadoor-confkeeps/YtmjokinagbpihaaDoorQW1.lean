/- A reader in memory, and its small functions. -/
import Derived.Test.YtmjokinagbpihaaDoorGCc
import Derived.Test.YtmjokinagbpihaaDoorGQm
import Derived.Test.YtmjokinagbpihaaDoorLW1
import Derived.Deep.LoopGhost
import Derived.Deep.RegionHeld3
import Derived.Deep.CondSized
import Derived.Deep.DeepCutAuto
import Derived.Deep.CutRange
import Derived.Deep.CutBlock
import Derived.Deep.QuietTactic
import Derived.BigQuiet
import Derived.Laws.MakeOwn
namespace Go.Proofs.YtmjokinagbpihaaDoor
open Go.RowKit

/-- How a reader stands: where the last number began, where the next one begins, what is wrong, and where. -/
structure St where
  fr : Nat
  nx : Nat
  e : Int
  at_ : Int

def rdA (a : Option Addr) (n cap : Nat) (s : St) : Array Value := #[.slice a n cap, .int .i64 s.fr, .int .i64 s.nx, .int .i64 s.e, .int .i64 s.at_]

/-- A reader at the block r over bytes. -/
structure RdAt (w : World) (r : Nat) (a : Option Addr) (cap : Nat) (bs : List Nat) (s : St) : Prop where
  obj : w.heap[r]? = some (.cells (rdA a bs.length cap s) 78 (0, 0))
  rd : Rd w a (bCells bs)
  ne : bs.length ≠ 0 → ∀ k, blk a = some k → k ≠ r
  byte : Byte bs
  le : bs.length ≤ 1048576
  room : bs.length ≤ cap
  nx : s.nx ≤ bs.length
  fr : s.fr ≤ bs.length

def numS (bs : List Nat) (k : Nat) (s : St) : Nat × St :=
  if s.e ≠ 0 then (0, s) else if bs.length < s.nx + k then (0, { s with e := 5, at_ := bs.length }) else (sumB bs s.nx k, { s with fr := s.nx, nx := s.nx + k })
def failS (s : St) (e a : Int) : St := if s.e = 0 ∧ e ≠ 0 then { s with e := e, at_ := a } else s

/-- But for the reader all is as it was. -/
def ROut (w : World) (r : Nat) (a : Option Addr) (cap : Nat) (bs : List Nat) (s' : St) (w' : World) : Prop := RdAt w' r a cap bs s' ∧ Mod (fun k => k = r) w w'

theorem rd_mod {w w' : World} {S : Nat → Prop} {a : Option Addr} {bs : List Nat} (h : Rd w a (bCells bs)) (hb : bs.length ≠ 0 → ∀ k, blk a = some k → ¬ S k) (hm : Mod S w w') : Rd w' a (bCells bs) := fun j u hj => by
  obtain ⟨b, o, rfl, hc⟩ := h j u hj
  have hl : bs.length ≠ 0 := by
    intro e
    rw [List.getElem?_eq_none (by rw [bCells_len]; omega)] at hj
    cases hj
  exact ⟨b, o, rfl, by rw [hm.cell (p := ⟨b, o + j, none⟩) (World.block_lt_of_cell? w _ hc) (hb hl b rfl)]; exact hc⟩

section
variable {w w' : World} {r : Nat} {a : Option Addr} {cap : Nat} {bs : List Nat} {s : St}
theorem RdAt.lt (h : RdAt w r a cap bs s) : r < w.heap.size := (Array.getElem?_eq_some_iff.1 h.obj).1
theorem RdAt.cell (h : RdAt w r a cap bs s) (i : Nat) : w.cell? ⟨r, i, none⟩ = (rdA a bs.length cap s)[i]? := cell_of_row _ _ _ _ _ _ h.obj
theorem RdAt.free (h : RdAt w r a cap bs s) (i : Nat) : w.frozen? ⟨r, i, none⟩ = false := by simp [World.frozen?, h.obj]
theorem RdAt.cells (h : RdAt w r a cap bs s) : w.cell? ⟨r, 0, none⟩ = some (.slice a bs.length cap) ∧ w.cell? ⟨r, 1, none⟩ = some (.int .i64 s.fr) ∧ w.cell? ⟨r, 2, none⟩ = some (.int .i64 s.nx) ∧ w.cell? ⟨r, 3, none⟩ = some (.int .i64 s.e) ∧ w.cell? ⟨r, 4, none⟩ = some (.int .i64 s.at_) :=
  ⟨h.cell 0, h.cell 1, h.cell 2, h.cell 3, h.cell 4⟩
theorem RdAt.below (h : RdAt w r a cap bs s) (hb : Below w.heap.size w w') : RdAt w' r a cap bs s :=
  ⟨by rw [hb.block r h.lt]; exact h.obj, h.rd.below hb, h.ne, h.byte, h.le, h.room, h.nx, h.fr⟩
theorem RdAt.mod {S : Nat → Prop} (h : RdAt w r a cap bs s) (hm : Mod S w w') (hr : ¬ S r) (hs : ∀ k, blk a = some k → k < w.heap.size → ¬ S k) : RdAt w' r a cap bs s :=
  ⟨by rw [hm.block r h.lt hr]; exact h.obj, h.rd.mod hs hm, h.ne, h.byte, h.le, h.room, h.nx, h.fr⟩
theorem RdAt.put (h : RdAt w r a cap bs s) (i : Nat) (v : Value) {s' : St} (he : (rdA a bs.length cap s).setIfInBounds i v = rdA a bs.length cap s') (hn : s'.nx ≤ bs.length) (hf : s'.fr ≤ bs.length) : RdAt (w.setCell ⟨r, i, none⟩ v) r a cap bs s' :=
  ⟨by rw [heap_setCell_same w r i _ _ v h.obj, he], rd_mod h.rd (fun hz k hk e => h.ne hz k hk e) ((Mod.refl (fun k => k = r) w).setCell (.inl rfl) v), h.ne, h.byte, h.le, h.room, hn, hf⟩
theorem RdAt.at (h : RdAt w r a cap bs s) (i : Nat) (hi : i < bs.length) : ∃ b o, a = some ⟨b, o, none⟩ ∧ w.cell? ⟨b, o + i, none⟩ = some (.int .u8 ((bs.getD i 0 : Nat) : Int)) :=
  h.rd i _ (by simp [bCells, List.getD_eq_getElem?_getD, List.getElem?_eq_getElem hi])
theorem ROut.refl (h : RdAt w r a cap bs s) : ROut w r a cap bs s w := ⟨h, Mod.refl _ _⟩
theorem ROut.trans {w1 w2 : World} {s1 s2 : St} (h : ROut w r a cap bs s1 w1) (k : ROut w1 r a cap bs s2 w2) : ROut w r a cap bs s2 w2 := ⟨k.1, h.2.trans k.2 (fun _ h => .inl h)⟩
theorem ROut.after {w1 w2 : World} {s1 : St} (h : ROut w r a cap bs s1 w1) (hb : Below w1.heap.size w1 w2) : ROut w r a cap bs s1 w2 := ⟨h.1.below hb, h.2.after hb⟩
theorem below_draw (w : World) (n : Nat) : Below w.heap.size w (w.drewN n) := ⟨rfl, rfl, rfl, Nat.le_refl _, fun _ _ => rfl⟩
end

set_option maxRecDepth 100000 in
theorem within_any (v lo hi : Int) (w : World) :
    Calls Tryd.prog 29 #[.int .i64 v, .int .i64 lo, .int .i64 hi] w fun e w' => e = .returned (.int .i64 (rngE lo hi v)) ∧ w' = w := by
  obtain ⟨E, hE⟩ : ∃ E, Hid (rngE lo hi v = E) := ⟨_, rfl⟩
  rw [hE.out]
  by_cases h1 : v < lo
  · obtain rfl : E = 2 := by rw [← hE.out, rngE, if_neg (by omega)]
    go_enter Tryd.func29, Tryd.ntmps29
    go_wp2
    go_ret
    exact ⟨rfl, rfl⟩
  · have d1 : decide (v < lo) = false := by simpa using h1
    by_cases h2 : hi < v
    · obtain rfl : E = 2 := by rw [← hE.out, rngE, if_neg (by omega)]
      go_enter Tryd.func29, Tryd.ntmps29
      go_wp2
      go_ret
      exact ⟨rfl, rfl⟩
    · have d2 : decide (hi < v) = false := by simpa using h2
      obtain rfl : E = 0 := by rw [← hE.out, rngE, if_pos (by omega)]
      go_enter Tryd.func29, Tryd.ntmps29
      go_wp2
      go_ret
      exact ⟨rfl, rfl⟩

set_option maxRecDepth 100000 in
theorem some_any (n most : Int) (w : World) :
    Calls Tryd.prog 30 #[.int .i64 n, .int .i64 most] w fun e w' => e = .returned (.int .i64 (cntE most n)) ∧ w' = w := by
  obtain ⟨E, hE⟩ : ∃ E, Hid (cntE most n = E) := ⟨_, rfl⟩
  rw [hE.out]
  by_cases h1 : n = 0
  · obtain rfl : E = 1 := by rw [← hE.out, cntE, if_pos h1]
    subst h1
    go_enter Tryd.func30, Tryd.ntmps30
    go_wp2
    go_ret
    exact ⟨rfl, rfl⟩
  · have d1 : (n == 0) = false := by simpa using h1
    by_cases h2 : most < n
    · obtain rfl : E = 3 := by rw [← hE.out, cntE, if_neg h1, if_pos h2]
      go_enter Tryd.func30, Tryd.ntmps30
      go_wp2
      go_ret
      exact ⟨rfl, rfl⟩
    · have d2 : decide (most < n) = false := by simpa using h2
      obtain rfl : E = 0 := by rw [← hE.out, cntE, if_neg h1, if_neg h2]
      go_enter Tryd.func30, Tryd.ntmps30
      go_wp2
      go_ret
      exact ⟨rfl, rfl⟩

section
variable {w : World} {r : Nat} {a : Option Addr} {cap : Nat} {bs : List Nat} {s : St}
set_option maxRecDepth 100000 in
theorem failed_any (h : RdAt w r a cap bs s) (b : Bool) (hb : b = !(s.e == 0)) :
    Calls Tryd.prog 53 #[.pointer (some ⟨r, 0, none⟩)] w fun e w' => e = .returned (.bool b) ∧ w' = w := by
  have k3 := h.cells.2.2.2.1
  clear h
  have HB := hd hb
  clear hb
  go_enter Tryd.func53, Tryd.ntmps53
  go_wp2
  go_ret
  exact ⟨ret_bool (by rw [HB.out]; rfl), rfl⟩

set_option maxRecDepth 100000 in
theorem fail_any (h : RdAt w r a cap bs s) (x y : Int) :
    Calls Tryd.prog 68 #[.pointer (some ⟨r, 0, none⟩), .int .i64 x, .int .i64 y] w fun e w' => e = .returned (.tuple #[]) ∧ ROut w r a cap bs (failS s x y) w' := by
  by_cases h0 : s.e = 0
  · have hf := failed_any h false (by simp [h0])
    by_cases h1 : x = 0
    · have HR : Hid (ROut w r a cap bs (failS s x y) w) := hd (by rw [failS, if_neg (by simp [h1])]; exact ROut.refl h)
      subst h1
      clear h h0
      go_enter Tryd.func68, Tryd.ntmps68
      go_wp2_with (go_at_call 53; refine hf.mono ?_; rintro e w1 ⟨rfl, rfl⟩)
      refine bodyPost_end (results_none rfl _ _ _) rfl ?_
      exact ⟨rfl, HR.out⟩
    · have d1 : (x == 0) = false := by simpa using h1
      have HR : Hid (ROut w r a cap bs (failS s x y) ((w.setCell ⟨r, 3, none⟩ (.int .i64 x)).setCell ⟨r, 4, none⟩ (.int .i64 y))) := hd (by
        rw [failS, if_pos ⟨h0, h1⟩]
        exact ⟨(h.put 3 _ (s' := { s with e := x }) rfl h.nx h.fr).put 4 _ (s' := { s with e := x, at_ := y }) rfl h.nx h.fr, ((Mod.refl (fun k => k = r) w).setCell (.inl rfl) _).setCell (.inl rfl) _⟩)
      have k3 := h.cells.2.2.2.1
      have k4 := h.cells.2.2.2.2
      have f3 := h.free 3
      have f4 := h.free 4
      clear h h0
      go_enter Tryd.func68, Tryd.ntmps68
      go_wp2_with (go_at_call 53; refine hf.mono ?_; rintro e w1 ⟨rfl, rfl⟩)
      refine bodyPost_end (results_none rfl _ _ _) rfl ?_
      exact ⟨rfl, HR.out⟩
  · have hf := failed_any h true (by simp [h0])
    have HR : Hid (ROut w r a cap bs (failS s x y) w) := hd (by rw [failS, if_neg (by simp [h0])]; exact ROut.refl h)
    clear h h0
    go_enter Tryd.func68, Tryd.ntmps68
    go_wp2_with (go_at_call 53; refine hf.mono ?_; rintro e w1 ⟨rfl, rfl⟩)
    refine bodyPost_end (results_none rfl _ _ _) rfl ?_
    exact ⟨rfl, HR.out⟩
end
end Go.Proofs.YtmjokinagbpihaaDoor
