/- What is wrong with an instruction, by the document's answer. -/
import Derived.Test.YthnjeejnnhadeaaGreatDoorGCa
import Derived.Maps.AppendAt
import Derived.Laws.OwnMore
namespace Go.Proofs.YthnjeejnnhadeaaGreatDoor
open Go.RowKit
end Go.Proofs.YthnjeejnnhadeaaGreatDoor

namespace Go.Proofs.YthnjeejnnhadeaaGreatDoor
open Go.RowKit
theorem below_drewN {B : Nat} {a w : World} (h : Below B a w) (n : Nat) : Below B a (w.drewN n) := ⟨h.os, h.tape, h.output, h.size, h.block⟩
structure InsAt (w : World) (b o : Nat) (x : Ins) : Prop where
 c0 : w.cell? ⟨b, o, none⟩ = some (.int .i64 x.op)
 c1 : w.cell? ⟨b, o + 1, none⟩ = some (.int .i64 x.a)
 c2 : w.cell? ⟨b, o + 2, none⟩ = some (.int .i64 x.b)
 c3 : w.cell? ⟨b, o + 3, none⟩ = some (.int .i64 x.c)
 c4 : w.cell? ⟨b, o + 4, none⟩ = some (.int .i64 x.imm)
theorem InsAt.kept {w w' : World} {b o : Nat} {x : Ins} (h : InsAt w b o x) (hb : Below w.heap.size w w') : InsAt w' b o x where
 c0 := (hb.cell (World.block_lt_of_cell? w _ h.c0)).trans h.c0
 c1 := (hb.cell (World.block_lt_of_cell? w _ h.c1)).trans h.c1
 c2 := (hb.cell (World.block_lt_of_cell? w _ h.c2)).trans h.c2
 c3 := (hb.cell (World.block_lt_of_cell? w _ h.c3)).trans h.c3
 c4 := (hb.cell (World.block_lt_of_cell? w _ h.c4)).trans h.c4
def Prg (w : World) (a : Option Addr) (l : List Ins) : Prop := ∀ i, i < l.length → ∃ b off, a = some ⟨b, off, none⟩ ∧ InsAt w b (off + i * 5) (l.getD i default)
theorem Prg.kept {w w' : World} {a : Option Addr} {l : List Ins} (h : Prg w a l) (hb : Below w.heap.size w w') : Prg w' a l := fun i hi => by
 obtain ⟨b, off, e, hc⟩ := h i hi
 exact ⟨b, off, e, hc.kept hb⟩
set_option maxRecDepth 100000 in
set_option maxHeartbeats 2000000 in
theorem may_any (a : Option Addr) (cap : Nat) (l : List Ins) (k : Int) (w : World) (hP : Prg w a l) (hF : Fld w) :
  Calls Tryz.prog 125 #[.slice a l.length cap, .int .i64 k] w fun e w' => e = .returned (.tuple #[.int .i64 (mayL l k).1, .int .i64 (mayL l k).2]) ∧ Below w.heap.size w w' := by
 by_cases h1 : k < 0
 ·have e : mayL l k = (1, 0) := by unfold mayL; rw [if_pos (by omega)]
  rw [e]
  clear e hP hF
  go_enter Tryz.func125, Tryz.ntmps125
  go_wp2
  go_ret2
  exact ⟨rfl, Below.refl _ _⟩
 ·have d1 : decide (k < 0) = false := by simpa using h1
  by_cases h2 : 8 < k
  ·have e : mayL l k = (1, 0) := by unfold mayL; rw [if_pos (by omega)]
   rw [e]
   clear e hP hF h1
   go_enter Tryz.func125, Tryz.ntmps125
   go_wp2
   go_ret2
   exact ⟨rfl, Below.refl _ _⟩
  ·have d2 : decide (8 < k) = false := by simpa using h2
   by_cases h3 : 256 < l.length
   ·have e : mayL l k = (3, 256) := by unfold mayL; rw [if_neg (by omega), if_pos h3]
    rw [e]
    have d3 : (256 : Int) < (l.length : Int) := by omega
    clear e hP hF h1 h2
    go_enter Tryz.func125, Tryz.ntmps125
    go_wp2
    go_ret2
    exact ⟨rfl, Below.refl _ _⟩
   ·have e : mayL l k = firstE l.length k l 0 := by unfold mayL; rw [if_neg (by omega), if_neg h3]
    rw [e]
    have hlen : l.length ≤ 256 := by omega
    have d3 : decide ((256 : Int) < (l.length : Int)) = false := by simp; omega
    obtain ⟨R, hR⟩ : ∃ R, Hid (firstE l.length k l 0 = R) := ⟨_, rfl⟩
    rw [hR.out]
    have HP : Hid (Prg w a l) := hP
    have HF : Hid (Fld w) := hF
    clear e hP hF h1 h2 h3
    go_enter Tryz.func125, Tryz.ntmps125
    go_wp2
    go_loopw [6, 7, 8, 20] (fun _ _ _ v20 wr => ∃ i : Nat, v20 = .int .i64 i ∧ i ≤ l.length ∧ Hid (∀ j, j < i → (wrong (l.getD j default) l.length k).1 = 0) ∧ Below w.heap.size w wr) (fun _ _ _ v20 _ => l.length - (intOf v20).toNat)
    case atStart => exact ⟨0, rfl, Nat.zero_le _, hd (fun j hj => absurd hj (Nat.not_lt_zero j)), Below.refl _ _⟩
    case round =>
     obtain ⟨i, rfl, hi, hall, hbr⟩ := hrel
     by_cases hlt : i < l.length
     ·have hlt' : (i : Int) < (l.length : Int) := by omega
      obtain ⟨b, off, rfl, hx⟩ := HP.out i hlt
      have hx := hx.kept hbr
      have hck : ∀ W, Below w.heap.size w W → _ := fun W hb => check_any (l.getD i default) l.length k W (HF.out.kept hb)
      obtain ⟨k0, k1, k2, k3, k4⟩ := hx
      by_cases hw : (wrong (l.getD i default) l.length k).1 = 0
      ·have hall' : Hid (∀ j, j < i + 1 → (wrong (l.getD j default) l.length k).1 = 0) := hd (fun j hj => by
        by_cases e : j = i
        ·rw [e]; exact hw
        ·exact hall.out j (by omega))
       rw [hw] at hck
       clear hw hall HP
       generalize l.getD i default = x at *
       unfold insV at hck
       go_wp2_with fail
       refine (hck _ ?_).mono ?_
       ·exact hbr.alloc hbr.size _
       rintro e w1 ⟨rfl, b1⟩
       have hba := hbr.alloc hbr.size (.cells #[.int .i64 x.op, .int .i64 x.a, .int .i64 x.b, .int .i64 x.c, .int .i64 x.imm] 84)
       replace b1 := hba.trans (b1.mono hba.size)
       go_wp2_with fail
       go_roundw
       case rel => exact ⟨i + 1, by go_num, by omega, hall', b1⟩
       case measure => simp [intOf]; omega
      ·have hfin : Hid (R = ((wrong (l.getD i default) l.length k).1, (i : Int))) := hd (by
        rw [← hR.out, firstE_at _ _ l 0 i hlt hall.out hw, Int.zero_add])
       generalize (wrong (l.getD i default) l.length k).1 = E at *
       have dE : (E == 0) = false := by simpa using hw
       clear hw hall HP hR
       generalize l.getD i default = x at *
       unfold insV at hck
       go_wp2_with fail
       refine (hck _ ?_).mono ?_
       ·exact hbr.alloc hbr.size _
       rintro e w1 ⟨rfl, b1⟩
       have hba := hbr.alloc hbr.size (.cells #[.int .i64 x.op, .int .i64 x.a, .int .i64 x.b, .int .i64 x.c, .int .i64 x.imm] 84)
       replace b1 := hba.trans (b1.mono hba.size)
       go_wp2_with fail
       go_ret2
       exact ⟨by rw [hfin.out]; rfl, b1⟩
     ·have hltd : decide ((i : Int) < (l.length : Int)) = false := by simp; omega
      have hge : (l.length : Int) ≤ (i : Int) := by omega
      have hfin : Hid (R = (0, 0)) := hd (by rw [← hR.out, firstE_none _ _ l 0 (fun j hj => hall.out j (by omega))])
      clear hall hR HP
      go_wp2
      go_ret2
      exact ⟨by rw [hfin.out]; rfl, hbr⟩
end Go.Proofs.YthnjeejnnhadeaaGreatDoor

namespace Go.Proofs.YthnjeejnnhadeaaGreatDoor
open Go.RowKit
def insCells (x : Ins) : List Value := [.int .i64 x.op, .int .i64 x.a, .int .i64 x.b, .int .i64 x.c, .int .i64 x.imm]
def pCells (l : List Ins) : List Value := l.flatMap insCells
theorem insCells_len (x : Ins) : (insCells x).length = 5 := rfl
theorem pCells_len (l : List Ins) : (pCells l).length = l.length * 5 := by
 induction l with
 | nil => rfl
 | cons x r ih => simp only [pCells, List.flatMap_cons, List.length_append, insCells_len, List.length_cons] at *; omega
theorem pCells_at : ∀ (l : List Ins) (i r : Nat), i < l.length → r < 5 → (pCells l)[i * 5 + r]? = (insCells (l.getD i default))[r]?
 | [], i, _, h, _ => absurd h (Nat.not_lt_zero i)
 | x :: l, 0, r, _, hr => by
  simp only [pCells, List.flatMap_cons, Nat.zero_mul, Nat.zero_add, List.getD_cons_zero]
  rw [List.getElem?_append_left (by rw [insCells_len]; exact hr)]
 | x :: l, i + 1, r, h, hr => by
  have ih := pCells_at l i r (by simpa using h) hr
  simp only [pCells, List.flatMap_cons, List.getD_cons_succ] at *
  rw [List.getElem?_append_right (by rw [insCells_len]; omega), insCells_len, show (i + 1) * 5 + r - 5 = i * 5 + r by omega]
  exact ih
end Go.Proofs.YthnjeejnnhadeaaGreatDoor
