/- A program's bytes, by the document's answer. -/
import Derived.Test.YthhcecllejddeaaGreatDoorGCb
import Derived.Laws.BitsAllLaws
import Derived.Laws.OwnMore
import Derived.Deep.CutRange
namespace Go.Proofs.YthhcecllejddeaaGreatDoor
open Go.RowKit
theorem may_len {l : List Ins} (h : (mayL l 8).1 = 0) : l.length ≤ 256 := by
 unfold mayL at h
 rw [if_neg (by omega)] at h
 split at h
 ·simp at h
 ·omega
end Go.Proofs.YthhcecllejddeaaGreatDoor

namespace Go.Proofs.YthhcecllejddeaaGreatDoor
open Go.RowKit
end Go.Proofs.YthhcecllejddeaaGreatDoor

namespace Go.Proofs.YthhcecllejddeaaGreatDoor
open Go.RowKit
theorem or_val {S y j T : Nat} (hS : S < 2 ^ (8 * j)) (hy : y < 256) (hj : j < 8) (hT : T = S + y * 2 ^ (8 * j)) :
  bits .or .u64 (S : Int) (IntKind.u64.wrap ((y : Int) * 2 ^ (8 * j))) = (T : Int) := by
 have hp : 2 ^ (8 * j) * 256 ≤ 18446744073709551616 := by
  have h1 : 2 ^ (8 * j) * 256 = 2 ^ (8 * j + 8) := by rw [Nat.pow_add]
  have h2 : 2 ^ (8 * j + 8) ≤ 2 ^ 64 := Nat.pow_le_pow_right (by decide) (by omega)
  have h3 : (2 : Nat) ^ 64 = 18446744073709551616 := by decide
  omega
 have hyp : y * 2 ^ (8 * j) < 18446744073709551616 := by
  have h1 : y * 2 ^ (8 * j) ≤ 255 * 2 ^ (8 * j) := Nat.mul_le_mul_right _ (by omega)
  have h2 : 0 < 2 ^ (8 * j) := Nat.two_pow_pos _
  omega
 have hor : S ||| y * 2 ^ (8 * j) = T := by
  rw [Nat.mul_comm, Nat.or_comm, ← Nat.two_pow_add_eq_or_of_lt hS, hT, Nat.mul_comm]
  omega
 have h2 : 0 < 2 ^ (8 * j) := Nat.two_pow_pos _
 generalize 8 * j = q at *
 have h1 : ((2 ^ q : Nat) : Int) = (2 : Int) ^ q := by simp
 rw [← h1]
 generalize 2 ^ q = P at *
 have e1 : (y : Int) * (P : Int) = ((y * P : Nat) : Int) := by simp
 have e2 : IntKind.u64.wrap ((y * P : Nat) : Int) = ((y * P : Nat) : Int) := by
  rw [wrap_u64]
  generalize y * P = M at *
  omega
 rw [e1, e2, u64_or_nat S (y * P) (by omega) hyp, hor]
theorem sum_lt8 {S j : Nat} (h : S < 2 ^ (8 * j)) (hj : j ≤ 8) : S < 18446744073709551616 := by
 have h2 : 2 ^ (8 * j) ≤ 2 ^ 64 := Nat.pow_le_pow_right (by decide) (by omega)
 have h3 : (2 : Nat) ^ 64 = 18446744073709551616 := by decide
 omega
set_option maxRecDepth 100000 in
theorem wrap_i64_nat (S : Nat) : IntKind.i64.wrap (S : Int) = wrap64 (S : Int) := by
 unfold wrap64
 generalize (S : Int) = z
 rw [IntKind.wrap_i64]
set_option maxRecDepth 100000 in
set_option maxHeartbeats 2000000 in
theorem read_any (b q n cap p : Nat) (bs : List Nat) (w : World) (hb : ∀ i, bs.getD i 0 < 256) (hn : 12 ≤ n) (hc : ∀ i, i < 12 → w.cell? ⟨b, q + i, none⟩ = some (.int .u8 ((bs.getD (p + i) 0 : Nat) : Int))) :
  Calls Tryz.prog 218 #[.slice (some ⟨b, q, none⟩) n cap] w fun e w' => e = .returned (insV (getI bs p)) ∧ Below w.heap.size w w' := by
 have hI : Hid (getI bs p = ⟨(bs.getD p 0 : Nat), (bs.getD (p + 1) 0 : Nat), (bs.getD (p + 2) 0 : Nat), (bs.getD (p + 3) 0 : Nat), wrap64 (sumB bs (p + 4) 8 : Nat)⟩) := hd rfl
 have k0 := hc 0 (by omega)
 have k1 := hc 1 (by omega)
 have k2 := hc 2 (by omega)
 have k3 := hc 3 (by omega)
 rw [Nat.add_zero, Nat.add_zero] at k0
 have HC : Hid (∀ i, i < 12 → w.cell? ⟨b, q + i, none⟩ = some (.int .u8 ((bs.getD (p + i) 0 : Nat) : Int))) := hc
 have HB : Hid (∀ i, bs.getD i 0 < 256) := hb
 have l0 := hb p
 have l1 := hb (p + 1)
 have l2 := hb (p + 2)
 have l3 := hb (p + 3)
 have hS : Hid (∀ j, sumB bs (p + 4) (j + 1) = sumB bs (p + 4) j + bs.getD (p + (4 + j)) 0 * 2 ^ (8 * j)) := hd fun j => by rw [sumB, Nat.add_assoc]
 have hL : Hid (∀ j, sumB bs (p + 4) j < 2 ^ (8 * j)) := hd (sumB_lt bs (p + 4) hb)
 have h0 : Hid (sumB bs (p + 4) 0 = 0) := hd rfl
 generalize sumB bs (p + 4) = S at *
 clear hc hb
 generalize getI bs p = G at *
 have HA : Below w.heap.size w (w.alloc (.cells #[.int .i64 0, .int .i64 0, .int .i64 0, .int .i64 0, .int .i64 0] 54)) := (Below.refl _ _).alloc (Nat.le_refl _) _
 go_enter Tryz.func218, Tryz.ntmps218
 go_wp2_with fail
 go_loopw [3, 4, 5] (fun v3 _ v5 wr => ∃ j : Nat, v5 = .int .i64 j ∧ j ≤ 8 ∧ v3 = .int .u64 (S j : Nat) ∧ wr = w.alloc (.cells #[.int .i64 0, .int .i64 0, .int .i64 0, .int .i64 0, .int .i64 0] 54)) (fun _ _ v5 _ => 8 - (intOf v5).toNat)
 case atStart => exact ⟨0, rfl, by omega, by rw [h0.out]; rfl, rfl⟩
 case round =>
  obtain ⟨j, rfl, hj, rfl, rfl⟩ := hrel
  by_cases hlt : j < 8
  ·have hx := alloc_keeps (.cells #[.int .i64 0, .int .i64 0, .int .i64 0, .int .i64 0, .int .i64 0] 54) (HC.out (4 + j) (by omega))
   have hy := HB.out (p + (4 + j))
   have hor := or_val (hL.out j) (HB.out (p + (4 + j))) hlt (hS.out j)
   generalize bs.getD (p + (4 + j)) 0 = y at *
   obtain ⟨m, hm⟩ : ∃ m, 4 + j = m := ⟨_, rfl⟩
   rw [hm] at hx
   have em : (4 : Int) + (j : Int) = (m : Int) := by omega
   have hmn : (m : Int) < (n : Int) := by omega
   clear hm
   obtain ⟨T, hT⟩ : ∃ T, Hid (S (j + 1) = T) := ⟨_, rfl⟩
   rw [hT.out] at hor
   go_wp2_with fail
   go_roundw
   case rel => exact ⟨j + 1, by go_num, by omega, by rw [hT.out], trivial⟩
   case measure => simp [intOf]; omega
  ·have ej : j = 8 := by omega
   subst ej
   have hl := sum_lt8 (hL.out 8) (by omega)
   have ew := wrap_i64_nat (S 8)
   generalize S 8 = s at *
   generalize wrap64 (s : Int) = z at *
   generalize bs.getD p 0 = y0 at *
   generalize bs.getD (p + 1) 0 = y1 at *
   generalize bs.getD (p + 2) 0 = y2 at *
   generalize bs.getD (p + 3) 0 = y3 at *
   have k0 := alloc_keeps (.cells #[.int .i64 0, .int .i64 0, .int .i64 0, .int .i64 0, .int .i64 0] 54) k0
   have k1 := alloc_keeps (.cells #[.int .i64 0, .int .i64 0, .int .i64 0, .int .i64 0, .int .i64 0] 54) k1
   have k2 := alloc_keeps (.cells #[.int .i64 0, .int .i64 0, .int .i64 0, .int .i64 0, .int .i64 0] 54) k2
   have k3 := alloc_keeps (.cells #[.int .i64 0, .int .i64 0, .int .i64 0, .int .i64 0, .int .i64 0] 54) k3
   clear HC HB hS hL h0
   go_wp2_with fail
   go_region
   go_wp2_with fail
   rw [hI.out]
   (try simp only [Exit.inBlock, Exit.then])
   refine bodyPost_ret (v := insV ⟨(y0 : Int), (y1 : Int), (y2 : Int), (y3 : Int), z⟩) ?_ rfl ⟨rfl, ?_⟩
   ·have hh := heap_alloc_new w (.cells #[.int .i64 (y0 : Int), .int .i64 (y1 : Int), .int .i64 (y2 : Int), .int .i64 (y3 : Int), .int .i64 z] 54)
    have c0 : ((w.alloc (.cells #[.int .i64 (y0 : Int), .int .i64 (y1 : Int), .int .i64 (y2 : Int), .int .i64 (y3 : Int), .int .i64 z] 54)).drew).cell? ⟨w.heap.size, 0, none⟩ = some (.int .i64 (y0 : Int)) := by simp
    have c1 : ((w.alloc (.cells #[.int .i64 (y0 : Int), .int .i64 (y1 : Int), .int .i64 (y2 : Int), .int .i64 (y3 : Int), .int .i64 z] 54)).drew).cell? ⟨w.heap.size, 1, none⟩ = some (.int .i64 (y1 : Int)) := by simp
    have c2 : ((w.alloc (.cells #[.int .i64 (y0 : Int), .int .i64 (y1 : Int), .int .i64 (y2 : Int), .int .i64 (y3 : Int), .int .i64 z] 54)).drew).cell? ⟨w.heap.size, 2, none⟩ = some (.int .i64 (y2 : Int)) := by simp
    have c3 : ((w.alloc (.cells #[.int .i64 (y0 : Int), .int .i64 (y1 : Int), .int .i64 (y2 : Int), .int .i64 (y3 : Int), .int .i64 z] 54)).drew).cell? ⟨w.heap.size, 3, none⟩ = some (.int .i64 (y3 : Int)) := by simp
    have c4 : ((w.alloc (.cells #[.int .i64 (y0 : Int), .int .i64 (y1 : Int), .int .i64 (y2 : Int), .int .i64 (y3 : Int), .int .i64 z] 54)).drew).cell? ⟨w.heap.size, 4, none⟩ = some (.int .i64 z) := by simp
    generalize (w.alloc (.cells #[.int .i64 (y0 : Int), .int .i64 (y1 : Int), .int .i64 (y2 : Int), .int .i64 (y3 : Int), .int .i64 z] 54)).drew = W at *
    clear hh
    simp [results, Tryz.results218, go_sem, insV, c0, c1, c2, c3, c4]
   ·exact ((Below.refl _ _).alloc (Nat.le_refl _) _).drew
end Go.Proofs.YthhcecllejddeaaGreatDoor

namespace Go.Proofs.YthhcecllejddeaaGreatDoor
open Go.RowKit
def Byt (w : World) (a : Option Addr) (bs : List Nat) : Prop := ∀ i, i < bs.length → ∃ b off, a = some ⟨b, off, none⟩ ∧ w.cell? ⟨b, off + i, none⟩ = some (.int .u8 ((bs.getD i 0 : Nat) : Int))
theorem Byt.kept {w w' : World} {a : Option Addr} {bs : List Nat} (h : Byt w a bs) (hb : Below w.heap.size w w') : Byt w' a bs := fun i hi => by
 obtain ⟨b, off, e, hc⟩ := h i hi
 exact ⟨b, off, e, (hb.cell (World.block_lt_of_cell? w _ hc)).trans hc⟩
theorem Byt.at {w : World} {b off : Nat} {bs : List Nat} (h : Byt w (some ⟨b, off, none⟩) bs) (i : Nat) (hi : i < bs.length) : w.cell? ⟨b, off + i, none⟩ = some (.int .u8 ((bs.getD i 0 : Nat) : Int)) := by
 obtain ⟨b', off', e, hc⟩ := h i hi
 simp at e
 obtain ⟨rfl, rfl⟩ := e
 exact hc
theorem Byt.form {w : World} {a : Option Addr} {bs : List Nat} (h : Byt w a bs) (hp : 0 < bs.length) : ∃ b off, a = some ⟨b, off, none⟩ := by
 obtain ⟨b, off, e, _⟩ := h 0 hp
 exact ⟨b, off, e⟩
def insCells (x : Ins) : List Value := [.int .i64 x.op, .int .i64 x.a, .int .i64 x.b, .int .i64 x.c, .int .i64 x.imm]
def pCells (l : List Ins) : List Value := l.flatMap insCells
theorem insCells_len (x : Ins) : (insCells x).length = 5 := rfl
theorem pCells_len (l : List Ins) : (pCells l).length = l.length * 5 := by
 induction l with
 | nil => rfl
 | cons x r ih => simp only [pCells, List.flatMap_cons, List.length_append, insCells_len, List.length_cons] at *; omega
theorem pCells_snoc (l : List Ins) (x : Ins) : pCells (l ++ [x]) = pCells l ++ insCells x := by simp [pCells]
theorem pCells_at : ∀ (l : List Ins) (i r : Nat), i < l.length → r < 5 → (pCells l)[i * 5 + r]? = (insCells (l.getD i default))[r]?
 | [], i, _, h, _ => absurd h (Nat.not_lt_zero i)
 | x :: l, 0, r, _, hr => by
  simp only [pCells, List.flatMap_cons, Nat.zero_mul, Nat.zero_add, List.getD_cons_zero]
  rw [List.getElem?_append_left (by rw [insCells_len]; exact hr)]
 | x :: l, i + 1, r, h, hr => by
  have ih := pCells_at l i r (by simpa using h) hr
  simp only [pCells, List.flatMap_cons, List.getD_cons_succ] at *
  rw [List.getElem?_append_right (by rw [insCells_len]; omega), insCells_len, show (i + 1) * 5 + r - 5 = i * 5 + r by omega]
  exact ih
theorem owns_grown {w w' : World} {gx : Option Nat} {B n s : Nat} {e : TypeId} {v : Value} {xs : List Value} (h : w.ownsRow B e s v n xs) (hg : w.grownBy w' gx) (hne : ∀ b, v.ownBlock = some b → some b ≠ gx) : w'.ownsRow B e s v n xs := by
 obtain ⟨h1, h2⟩ := h
 refine ⟨h1, ?_⟩
 rcases h2 with h2 | ⟨g, cap, cur, rfl, h3, h4, h5⟩
 ·exact .inl h2
 ·refine .inr ⟨g, cap, cur, rfl, h3, ?_, h5⟩
  rw [hg.block g (by
   rcases Nat.lt_or_ge g w.heap.size with hx | hx
   ·exact hx
   ·rw [Array.getElem?_eq_none hx] at h4; cases h4) (hne g rfl)]
  exact h4
theorem owns_below {w w' : World} {B n s : Nat} {e : TypeId} {v : Value} {xs : List Value} (h : w.ownsRow B e s v n xs) (hb : Below w.heap.size w w') : w'.ownsRow B e s v n xs :=
 owns_grown (gx := none) h ⟨hb.os, hb.tape, hb.output, hb.size, fun k hk _ => hb.block k hk⟩ (fun b _ => by simp)
end Go.Proofs.YthhcecllejddeaaGreatDoor

namespace Go.Proofs.YthhcecllejddeaaGreatDoor
open Go.RowKit
theorem info_ins : (Tryz.prog.info? 54).map (fun i => (i.zero, i.size, i.bytes)) = some (some (.agg #[.int .i64 0, .int .i64 0, .int .i64 0, .int .i64 0, .int .i64 0]), 5, 40) := by kernel_rfl
theorem decR_at {bs : List Nat} {n i : Nat} (hn : bs.length = 12 * n) (h256 : n ≤ 256) (hi : i < n) (hall : ∀ j, j < i → (wrong (getI bs (12 * j)) n 8).1 = 0) (hw : (wrong (getI bs (12 * i)) n 8).1 ≠ 0) :
  decR bs = ((wrong (getI bs (12 * i)) n 8).1, 12 * (i : Int) + (wrong (getI bs (12 * i)) n 8).2) := by
 unfold decR
 rw [if_neg (by omega), if_neg (by omega), show bs.length / 12 = n by omega, decE_at bs n n 0 i hi (fun j hj => by rw [Nat.zero_add]; exact hall j hj) (by rw [Nat.zero_add]; exact hw), Nat.zero_add]
theorem decR_none {bs : List Nat} {n : Nat} (hn : bs.length = 12 * n) (h256 : n ≤ 256) (hall : ∀ j, j < n → (wrong (getI bs (12 * j)) n 8).1 = 0) : decR bs = (0, 0) := by
 unfold decR
 rw [if_neg (by omega), if_neg (by omega), show bs.length / 12 = n by omega, decE_none bs n n 0 (fun j hj => by rw [Nat.zero_add]; exact hall j hj)]
def DecPost (w : World) (bs : List Nat) (e : Ending) (w' : World) : Prop :=
 ((decR bs).1 = 0 ∧ ∃ g cap', e = .returned (.tuple #[.slice (some ⟨g, 0, none⟩) (bs.length / 12) cap', .int .i64 0, .int .i64 0]) ∧ w'.ownsRow w.heap.size 54 5 (.slice (some ⟨g, 0, none⟩) (bs.length / 12) cap') (bs.length / 12) (pCells (decL bs (bs.length / 12))) ∧ Below w.heap.size w w') ∨
 ((decR bs).1 ≠ 0 ∧ e = .returned (.tuple #[.slice none 0 0, .int .i64 (decR bs).1, .int .i64 (decR bs).2]) ∧ Below w.heap.size w w')
end Go.Proofs.YthhcecllejddeaaGreatDoor

namespace Go.Proofs.YthhcecllejddeaaGreatDoor
open Go.RowKit
def set5 (xs : List Value) (k : Nat) (x : Ins) : List Value := ((((xs.set k (.int .i64 x.op)).set (k + 1) (.int .i64 x.a)).set (k + 2) (.int .i64 x.b)).set (k + 3) (.int .i64 x.c)).set (k + 4) (.int .i64 x.imm)
theorem set5_at (xs : List Value) (k : Nat) (x : Ins) (hk : k + 5 ≤ xs.length) (r : Nat) (hr : r < 5) : (set5 xs k x)[k + r]? = (insCells x)[r]? := by
 have : r = 0 ∨ r = 1 ∨ r = 2 ∨ r = 3 ∨ r = 4 := by omega
 unfold set5
 rcases this with rfl | rfl | rfl | rfl | rfl <;> simp only [List.getElem?_set, List.length_set] <;> simp [insCells] <;> omega
theorem set5_ne (xs : List Value) (k : Nat) (x : Ins) (t : Nat) (ht : t < k) : (set5 xs k x)[t]? = xs[t]? := by
 unfold set5
 rw [List.getElem?_set_ne (by omega), List.getElem?_set_ne (by omega), List.getElem?_set_ne (by omega), List.getElem?_set_ne (by omega), List.getElem?_set_ne (by omega)]
def Read (bs : List Nat) (xs : List Value) (i : Nat) : Prop := ∀ j, j < i → ∀ r, r < 5 → xs[j * 5 + r]? = (insCells (getI bs (12 * j)))[r]?
theorem Read.step {bs : List Nat} {xs : List Value} {i : Nat} {x : Ins} (h : Read bs xs i) (hl : i * 5 + 5 ≤ xs.length) (hx : getI bs (12 * i) = x) : Read bs (set5 xs (i * 5) x) (i + 1) := fun j hj r hr => by
 by_cases e : j = i
 ·subst e
  rw [set5_at _ _ _ hl r hr, hx]
 ·rw [set5_ne _ _ _ _ (by omega)]
  exact h j (by omega) r hr
theorem Read.all {bs : List Nat} {xs : List Value} {n : Nat} (h : Read bs xs n) (hl : xs.length = n * 5) : xs = pCells (decL bs n) := by
 apply List.ext_getElem?
 intro t
 by_cases ht : t < n * 5
 ·have h1 := h (t / 5) (by omega) (t % 5) (by omega)
  have h2 := pCells_at (decL bs n) (t / 5) (t % 5) (by rw [decL_len]; omega) (by omega)
  rw [decL_at bs n (t / 5) (by omega)] at h2
  rw [show t / 5 * 5 + t % 5 = t by omega] at h1 h2
  rw [h1, h2]
 ·rw [List.getElem?_eq_none (by omega), List.getElem?_eq_none (by rw [pCells_len, decL_len]; omega)]
set_option maxRecDepth 100000 in
set_option maxHeartbeats 4000000 in
theorem decode_in (a : Option Addr) (cap n : Nat) (bs : List Nat) (w : World) (hB : Byt w a bs) (hFl : Fld w) (hb : ∀ i, bs.getD i 0 < 256) (hcap : bs.length ≤ cap) (hn : bs.length = 12 * n) (h256 : n ≤ 256) :
  Calls Tryz.prog 173 #[.slice a bs.length cap] w (DecPost w bs) := by
 obtain ⟨i0, hi0, hz0, hz1, hz2⟩ := info_parts info_ins
 have HB : Hid (Byt w a bs) := hB
 have HFL : Hid (Fld w) := hFl
 have Hb : Hid (∀ i, bs.getD i 0 < 256) := hb
 have HN : Hid (bs.length = 12 * n) := hn
 have HN2 : Hid (bs.length = 12 * n) := hn
 obtain ⟨L, hL⟩ : ∃ L, Hid (bs.length = L) := ⟨_, rfl⟩
 have e1 : (L : Int) % 12 = 0 := by have := hL.out; omega
 have e2 : (L : Int) / 12 = (n : Int) := by have := hL.out; omega
 have e3 : decide ((3072 : Int) < (L : Int)) = false := by have := hL.out; simp; omega
 have e4 : L = 12 * n := by have := hL.out; omega
 rw [hL.out] at hcap ⊢
 have HE4 : Hid (L = 12 * n) := e4
 clear hB hb hn e4 hFl
 go_enter Tryz.func173, Tryz.ntmps173
 go_wp2_with (at_make; refine wpList_make_full _ rfl _ _ 55 rfl w.heap.size 54 i0 (.agg #[.int .i64 0, .int .i64 0, .int .i64 0, .int .i64 0, .int .i64 0]) 5 Tryz.underlying55 hi0 hz0 hz1 .i64 .i64 _ _ n rfl rfl (by omega) (by omega) (by rw [hz2]; omega) (by unfold maxLen; omega) (Nat.le_refl _) ?_; intro w0 hown0 hg0)
 have b0 : Below w.heap.size w w0 := (Below.refl _ _).grown hg0 (Nat.le_refl _) (fun k hk => by cases hk)
 clear hg0
 generalize (madeCells _ _).toList = xs0 at hown0
 go_loopw [7, 8, 9, 10, 27] (fun _ _ _ _ v27 wr => ∃ i : Nat, ∃ xs, v27 = .int .i64 i ∧ i ≤ n ∧ wr.ownsRow w.heap.size 54 5 (.slice (some ⟨w.heap.size, 0, none⟩) n n) n xs ∧ Hid (Read bs xs i) ∧ Hid (∀ j, j < i → (wrong (getI bs (12 * j)) n 8).1 = 0) ∧ Below w.heap.size w wr) (fun _ _ _ _ v27 _ => n - (intOf v27).toNat)
 case atStart => exact ⟨0, xs0, rfl, Nat.zero_le _, hown0, hd (fun j hj => absurd hj (Nat.not_lt_zero j)), hd (fun j hj => absurd hj (Nat.not_lt_zero j)), b0⟩
 case round =>
  obtain ⟨i, xs, rfl, hi, hown, hread, hall, hbr⟩ := hrel
  clear hown0 b0
  by_cases hlt : i < n
  ·have hlt' : (i : Int) < (n : Int) := by omega
   have hp : 0 < bs.length := by have := HN.out; omega
   obtain ⟨b, off, rfl⟩ := HB.out.form hp
   obtain ⟨F, hF⟩ : ∃ F, Hid (12 * i = F) := ⟨_, rfl⟩
   have eF : (i : Int) * (12 : Int) = (F : Int) := by have := hF.out; omega
   obtain ⟨E, hE⟩ : ∃ E, Hid (F + 12 = E) := ⟨_, rfl⟩
   have eE : (F : Int) + 12 = (E : Int) := by have := hE.out; omega
   have eEF : E - F = 12 := by have := hE.out; omega
   have hFE : F ≤ E := by have := hE.out; omega
   have hEL : E ≤ L := by have := hF.out; have := hE.out; have := HE4.out; omega
   have hEc : E ≤ cap := by omega
   have hrd : ∀ W, Below w.heap.size w W → _ := fun W hbW => read_any b (off + F) 12 (cap - F) F bs W Hb.out (by omega) (fun r hr => by
    rw [Nat.add_assoc]
    exact (HB.out.kept hbW).at (F + r) (by have := hL.out; have := hE.out; omega))
   have hwr : ∀ W, Below w.heap.size w W → _ := fun W hbW => fault_any (getI bs F) n 8 W (HFL.out.kept hbW)
   have hsz := hbr.size
   have hFc : F < cap := by have := hE.out; omega
   clear HB Hb HN e1 e2 e3 HFL
   obtain ⟨x, hx⟩ : ∃ x, Hid (getI bs F = x) := ⟨_, rfl⟩
   simp only [hx.out] at hrd hwr
   go_wp2_with fail
   refine (hrd _ hbr).mono ?_
   rintro e w1 ⟨rfl, b1⟩
   have bw1 := hbr.trans (b1.mono hbr.size)
   have hs1 := bw1.size
   have hown1 := owns_below hown b1
   clear hown hrd b1 hbr
   unfold insV at *
   have hxl : xs.length = n * 5 := hown1.1
   have key : ∀ r, r < 5 → ∃ u, w1.cell? ⟨w.heap.size, i * 5 + r, none⟩ = some u := fun r hr => ⟨xs[i * 5 + r]'(by omega), by rw [hown1.cellAt _ (by omega), List.getElem?_eq_getElem (by omega)]⟩
   obtain ⟨u0, c0⟩ := key 0 (by omega)
   obtain ⟨u1, c1⟩ := key 1 (by omega)
   obtain ⟨u2, c2⟩ := key 2 (by omega)
   obtain ⟨u3, c3⟩ := key 3 (by omega)
   obtain ⟨u4, c4⟩ := key 4 (by omega)
   have f0 := hown1.frozenAt (i * 5)
   have f1 := hown1.frozenAt (i * 5 + 1)
   have f2 := hown1.frozenAt (i * 5 + 2)
   have f3 := hown1.frozenAt (i * 5 + 3)
   have f4 := hown1.frozenAt (i * 5 + 4)
   rw [Nat.add_zero] at c0
   clear key
   go_upto_region 12 with fail
   have s1 := hown1.stored (i * 5) (.int .i64 x.op)
   have s2 := s1.1.stored (i * 5 + 1) (.int .i64 x.a)
   have s3 := s2.1.stored (i * 5 + 2) (.int .i64 x.b)
   have s4 := s3.1.stored (i * 5 + 3) (.int .i64 x.c)
   have s5 := s4.1.stored (i * 5 + 4) (.int .i64 x.imm)
   have hge : ∀ k, some w.heap.size = some k → w.heap.size ≤ k := fun k hk => by cases hk; exact Nat.le_refl _
   have bW : Below w.heap.size w _ := ((((bw1.grown s1.2 bw1.size hge).grown s2.2 (bw1.grown s1.2 bw1.size hge).size hge).grown s3.2 (by simpa using hs1) hge).grown s4.2 (by simpa using hs1) hge).grown s5.2 (by simpa using hs1) hge
   have ownW := s5.1
   obtain ⟨W, hWd⟩ : ∃ W, Hid (W = ((((w1.setCell ⟨w.heap.size, i * 5, none⟩ (.int .i64 x.op)).setCell ⟨w.heap.size, i * 5 + 1, none⟩ (.int .i64 x.a)).setCell ⟨w.heap.size, i * 5 + 2, none⟩ (.int .i64 x.b)).setCell ⟨w.heap.size, i * 5 + 3, none⟩ (.int .i64 x.c)).setCell ⟨w.heap.size, i * 5 + 4, none⟩ (.int .i64 x.imm)) := ⟨_, rfl⟩
   rw [← hWd.out] at bW ownW ⊢
   change W.ownsRow w.heap.size 54 5 _ n (set5 xs (i * 5) x) at ownW
   clear s1 s2 s3 s4 s5 hWd hown1 bw1 c0 c1 c2 c3 c4 f0 f1 f2 f3 f4
   have hread' : Hid (Read bs (set5 xs (i * 5) x) (i + 1)) := hd (hread.out.step (by omega) (by rw [hF.out, hx.out]))
   have kk : ∀ r, r < 5 → W.cell? ⟨w.heap.size, i * 5 + r, none⟩ = (insCells x)[r]? := fun r hr => by
    rw [ownW.cellAt _ (by omega), set5_at _ _ _ (by omega) r hr]
   have c0 : W.cell? ⟨w.heap.size, i * 5, none⟩ = some (.int .i64 x.op) := kk 0 (by omega)
   have c1 : W.cell? ⟨w.heap.size, i * 5 + 1, none⟩ = some (.int .i64 x.a) := kk 1 (by omega)
   have c2 : W.cell? ⟨w.heap.size, i * 5 + 2, none⟩ = some (.int .i64 x.b) := kk 2 (by omega)
   have c3 : W.cell? ⟨w.heap.size, i * 5 + 3, none⟩ = some (.int .i64 x.c) := kk 3 (by omega)
   have c4 : W.cell? ⟨w.heap.size, i * 5 + 4, none⟩ = some (.int .i64 x.imm) := kk 4 (by omega)
   generalize set5 xs (i * 5) x = ys at *
   clear kk hxl hread
   go_wp2_with fail
   refine (hwr _ bW).mono ?_
   rintro e w2 ⟨rfl, b2⟩
   have bw2 := bW.trans (b2.mono bW.size)
   have hown2 := owns_below ownW b2
   clear hwr b2 bW ownW c0 c1 c2 c3 c4
   by_cases hw : (wrong x n 8).1 = 0
   ·have hall' : Hid (∀ j, j < i + 1 → (wrong (getI bs (12 * j)) n 8).1 = 0) := hd (fun j hj => by
     by_cases e : j = i
     ·rw [e, hF.out, hx.out]; exact hw
     ·exact hall.out j (by omega))
    rw [hw]
    clear hw hall
    go_wp2_with fail
    go_roundw
    case rel => exact ⟨i + 1, ys, by go_num, by omega, hown2, hread', hall', bw2⟩
    case measure => simp [intOf]; omega
   ·have hR : Hid (decR bs = ((wrong x n 8).1, (F : Int) + (wrong x n 8).2)) := hd (by
     have := decR_at HN2.out h256 hlt hall.out (by rw [hF.out, hx.out]; exact hw)
     rw [hF.out, hx.out] at this
     rw [this, ← hF.out]; simp)
    have dE : ((wrong x n 8).1 == 0) = false := by simpa using hw
    have hA := wrong_at_lt x n 8
    generalize wrong x n 8 = V at *
    obtain ⟨E', A⟩ := V
    simp only at *
    have hFb : F ≤ 4000 := by have := HE4.out; omega
    have hA1 : (F : Int) + A ≤ 9000 := by omega
    clear hall hown2
    go_wp2_with fail
    go_ret3
    refine .inr ⟨by rw [hR.out]; exact hw, by rw [hR.out]; rfl, bw2⟩
  ·have ei : i = n := by omega
   have hltd : decide ((i : Int) < (n : Int)) = false := by simp; omega
   have hR := decR_none HN2.out h256 (fun j hj => hall.out j (by omega))
   have HR : Hid (decR bs = (0, 0)) := hR
   have hxs := (show Read bs xs n by rw [← ei]; exact hread.out).all hown.1
   rw [hxs] at hown
   clear hall hR hread
   go_wp2_with fail
   go_ret3
   refine .inl ⟨by rw [HR.out], w.heap.size, n, ?_, ?_, hbr⟩
   ·rw [show bs.length / 12 = n by have := HN2.out; omega]; rfl
   ·rw [show bs.length / 12 = n by have := HN2.out; omega]; exact hown
end Go.Proofs.YthhcecllejddeaaGreatDoor

namespace Go.Proofs.YthhcecllejddeaaGreatDoor
open Go.RowKit
set_option maxRecDepth 100000 in
set_option maxHeartbeats 1000000 in
theorem decode_any (a : Option Addr) (cap : Nat) (bs : List Nat) (w : World) (hB : Byt w a bs) (hFl : Fld w) (hb : ∀ i, bs.getD i 0 < 256) (hcap : bs.length ≤ cap) :
  Calls Tryz.prog 173 #[.slice a bs.length cap] w (DecPost w bs) := by
 by_cases h1 : 3072 < bs.length
 ·have HR : Hid (decR bs = (3, 3072)) := hd (by unfold decR; rw [if_pos h1])
  have d1 : (3072 : Int) < (bs.length : Int) := by omega
  generalize bs.length = L at *
  clear hB hFl hb hcap
  go_enter Tryz.func173, Tryz.ntmps173
  go_wp2_with fail
  go_ret3
  exact .inr ⟨by rw [HR.out]; simp, by rw [HR.out]; rfl, Below.refl _ _⟩
 ·by_cases h2 : bs.length % 12 = 0
  ·exact decode_in a cap (bs.length / 12) bs w hB hFl hb hcap (by omega) (by omega)
  ·have HR : Hid (decR bs = ((5 : Int), (bs.length : Int))) := hd (by unfold decR; rw [if_neg h1, if_pos h2])
   have d1 : decide ((3072 : Int) < (bs.length : Int)) = false := by simp; omega
   have d2 : ((bs.length : Int) % 12 == 0) = false := by simp; omega
   generalize bs.length = L at *
   clear hB hFl hb hcap
   go_enter Tryz.func173, Tryz.ntmps173
   go_wp2_with fail
   go_ret3
   exact .inr ⟨by rw [HR.out]; simp, by rw [HR.out]; rfl, Below.refl _ _⟩
end Go.Proofs.YthhcecllejddeaaGreatDoor

namespace Go.Proofs.YthhcecllejddeaaGreatDoor
end Go.Proofs.YthhcecllejddeaaGreatDoor
