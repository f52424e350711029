/- Bytes in memory; what was read as memory; Same. -/
import Derived.Test.YtmjokinagbpihaaDoorCW11
import Derived.Laws.OwnMore
namespace Go.Proofs.YtmjokinagbpihaaDoor
open Go.RowKit

/-- The bytes bs lie at the address a. -/
def Byt (w : World) (a : Option Addr) (bs : List Nat) : Prop := ∀ i, i < bs.length → ∃ b off, a = some ⟨b, off, none⟩ ∧ w.cell? ⟨b, off + i, none⟩ = some (.int .u8 ((bs.getD i 0 : Nat) : Int))

theorem Byt.kept {w w' : World} {a : Option Addr} {bs : List Nat} (h : Byt w a bs) (hb : Below w.heap.size w w') : Byt w' a bs := fun i hi => by
  obtain ⟨b, off, e, hc⟩ := h i hi
  exact ⟨b, off, e, (hb.cell (World.block_lt_of_cell? w _ hc)).trans hc⟩

theorem Byt.at {w : World} {b off : Nat} {bs : List Nat} (h : Byt w (some ⟨b, off, none⟩) bs) (i : Nat) (hi : i < bs.length) : w.cell? ⟨b, off + i, none⟩ = some (.int .u8 ((bs.getD i 0 : Nat) : Int)) := by
  obtain ⟨b', off', e, hc⟩ := h i hi
  simp at e
  obtain ⟨rfl, rfl⟩ := e
  exact hc

theorem Byt.form {w : World} {a : Option Addr} {bs : List Nat} (h : Byt w a bs) (hp : 0 < bs.length) : ∃ b off, a = some ⟨b, off, none⟩ := by
  obtain ⟨b, off, e, _⟩ := h 0 hp
  exact ⟨b, off, e⟩

def insCells (x : Ins) : List Value := [.int .i64 x.op, .int .i64 x.a, .int .i64 x.b, .int .i64 x.c, .int .i64 x.imm]
def pCells (l : List Ins) : List Value := l.flatMap insCells
theorem insCells_len (x : Ins) : (insCells x).length = 5 := rfl
theorem pCells_len (l : List Ins) : (pCells l).length = l.length * 5 := by
  induction l with
  | nil => rfl
  | cons x r ih => simp only [pCells, List.flatMap_cons, List.length_append, insCells_len, List.length_cons] at *; omega
theorem pCells_snoc (l : List Ins) (x : Ins) : pCells (l ++ [x]) = pCells l ++ insCells x := by simp [pCells]
theorem pCells_at : ∀ (l : List Ins) (i r : Nat), i < l.length → r < 5 → (pCells l)[i * 5 + r]? = (insCells (l.getD i default))[r]?
  | [], i, _, h, _ => absurd h (Nat.not_lt_zero i)
  | x :: l, 0, r, _, hr => by
    simp only [pCells, List.flatMap_cons, Nat.zero_mul, Nat.zero_add, List.getD_cons_zero]
    rw [List.getElem?_append_left (by rw [insCells_len]; exact hr)]
  | x :: l, i + 1, r, h, hr => by
    have ih := pCells_at l i r (by simpa using h) hr
    simp only [pCells, List.flatMap_cons, List.getD_cons_succ] at *
    rw [List.getElem?_append_right (by rw [insCells_len]; omega), insCells_len, show (i + 1) * 5 + r - 5 = i * 5 + r by omega]
    exact ih

theorem prg_of_owns {w : World} {B n cap g : Nat} {l : List Ins} (h : w.ownsRow B 71 5 (.slice (some ⟨g, 0, none⟩) n cap) n (pCells l)) : Prg w (some ⟨g, 0, none⟩) l ∧ l.length = n := by
  have hlen : l.length = n := by have := h.1; rw [pCells_len] at this; omega
  refine ⟨fun i hi => ⟨g, 0, rfl, ?_⟩, hlen⟩
  have key : ∀ r, r < 5 → w.cell? ⟨g, 0 + i * 5 + r, none⟩ = (insCells (l.getD i default))[r]? := fun r hr => by
    rw [h.cellAt (0 + i * 5 + r) (by omega), Nat.zero_add, pCells_at l i r hi hr]
  exact ⟨key 0 (by omega), key 1 (by omega), key 2 (by omega), key 3 (by omega), key 4 (by omega)⟩

theorem byt_of_owns {w : World} {B n cap g : Nat} {bs : List Nat} (h : w.ownsRow B 5 1 (.slice (some ⟨g, 0, none⟩) n cap) n (bCells bs)) : Byt w (some ⟨g, 0, none⟩) bs ∧ bs.length = n ∧ n ≤ cap := by
  have hlen : bs.length = n := by have := h.1; rw [bCells_len] at this; omega
  refine ⟨fun i hi => ⟨g, 0, rfl, ?_⟩, hlen, ?_⟩
  · rw [Nat.zero_add, h.cellAt i (by omega)]
    simp [bCells, List.getD_eq_getElem?_getD, hi]
  · rcases h.2 with ⟨h', _⟩ | ⟨g', cap', cur, h', _, _, hnc, _⟩
    · simp at h'
    · simp only [Value.slice.injEq] at h'
      omega

theorem owns_grown {w w' : World} {gx : Option Nat} {B n s : Nat} {e : TypeId} {v : Value} {xs : List Value} (h : w.ownsRow B e s v n xs) (hg : w.grownBy w' gx) (hne : ∀ b, v.ownBlock = some b → some b ≠ gx) : w'.ownsRow B e s v n xs := by
  obtain ⟨h1, h2⟩ := h
  refine ⟨h1, ?_⟩
  rcases h2 with h2 | ⟨g, cap, cur, rfl, h3, h4, h5⟩
  · exact .inl h2
  · refine .inr ⟨g, cap, cur, rfl, h3, ?_, h5⟩
    rw [hg.block g (by
      rcases Nat.lt_or_ge g w.heap.size with hx | hx
      · exact hx
      · rw [Array.getElem?_eq_none hx] at h4; cases h4) (hne g rfl)]
    exact h4

theorem owns_below {w w' : World} {B n s : Nat} {e : TypeId} {v : Value} {xs : List Value} (h : w.ownsRow B e s v n xs) (hb : Below w.heap.size w w') : w'.ownsRow B e s v n xs :=
  owns_grown (gx := none) h ⟨hb.os, hb.tape, hb.output, hb.size, fun k hk _ => hb.block k hk⟩ (fun b _ => by simp)

theorem drewN_add (w : World) (a b : Nat) : (w.drewN a).drewN b = w.drewN (a + b) := by simp [World.drewN, Nat.add_assoc]

set_option maxRecDepth 100000 in
set_option maxHeartbeats 2000000 in
theorem same_yes (a b : Option Addr) (c1 c2 : Nat) (l : List Ins) (w : World) (hlen : l.length ≤ 2000000) (hA : Prg w a l) (hB : Prg w b l) :
    Calls Tryd.prog 24 #[.slice a l.length c1, .slice b l.length c2] w fun e w' => e = .returned (.bool true) ∧ ∃ n, w' = w.drewN n := by
  have HA : Hid (Prg w a l) := hA
  have HB : Hid (Prg w b l) := hB
  clear hA hB
  go_enter Tryd.func24, Tryd.ntmps24
  go_wp2_with fail
  go_loopw [5] (fun v5 wr => ∃ i : Nat, v5 = .int .i64 i ∧ i ≤ l.length ∧ ∃ n, wr = w.drewN n) (fun v5 _ => l.length - (intOf v5).toNat)
  case atStart => exact ⟨0, rfl, Nat.zero_le _, 0, rfl⟩
  case round =>
    obtain ⟨i, rfl, hi, n, rfl⟩ := hrel
    by_cases hlt : i < l.length
    · have hlt' : (i : Int) < (l.length : Int) := by omega
      obtain ⟨ba, oa, rfl, hx⟩ := HA.out i hlt
      obtain ⟨bb, ob, rfl, hy⟩ := HB.out i hlt
      obtain ⟨W, hW⟩ : ∃ W, Hid (W = w.drewN n) := ⟨_, rfl⟩
      have hx : InsAt W ba (oa + i * 5) (l.getD i default) := by rw [hW.out]; exact ⟨hx.c0, hx.c1, hx.c2, hx.c3, hx.c4⟩
      have hy : InsAt W bb (ob + i * 5) (l.getD i default) := by rw [hW.out]; exact ⟨hy.c0, hy.c1, hy.c2, hy.c3, hy.c4⟩
      rw [← hW.out]
      obtain ⟨x0, x1, x2, x3, x4⟩ := hx
      obtain ⟨y0, y1, y2, y3, y4⟩ := hy
      generalize l.getD i default = x at *
      clear HA HB
      go_wp2_with fail
      go_quiet (fail)
      go_wp2_with fail
      go_roundw
      case rel => exact ⟨i + 1, by go_num, by omega, n + nq, by rw [hW.out, drewN_add]⟩
      case measure => simp [intOf]; omega
    · have hltd : decide ((i : Int) < (l.length : Int)) = false := by simp; omega
      go_wp2
      go_ret
      exact ⟨rfl, n, rfl⟩
end Go.Proofs.YtmjokinagbpihaaDoor
