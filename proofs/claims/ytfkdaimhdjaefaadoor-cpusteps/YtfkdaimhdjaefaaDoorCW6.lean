/- Programs in memory. -/
import Derived.Test.YtfkdaimhdjaefaaDoorCW5
namespace Go.Proofs.YtfkdaimhdjaefaaDoor
open Go.RowKit

theorem below_drewN {B : Nat} {a w : World} (h : Below B a w) (n : Nat) : Below B a (w.drewN n) := ⟨h.os, h.tape, h.output, h.size, h.block⟩

/-- The instruction x lies at the cells from an address on. -/
structure InsAt (w : World) (b o : Nat) (x : Ins) : Prop where
  c0 : w.cell? ⟨b, o, none⟩ = some (.int .i64 x.op)
  c1 : w.cell? ⟨b, o + 1, none⟩ = some (.int .i64 x.a)
  c2 : w.cell? ⟨b, o + 2, none⟩ = some (.int .i64 x.b)
  c3 : w.cell? ⟨b, o + 3, none⟩ = some (.int .i64 x.c)
  c4 : w.cell? ⟨b, o + 4, none⟩ = some (.int .i64 x.imm)

theorem InsAt.kept {w w' : World} {b o : Nat} {x : Ins} (h : InsAt w b o x) (hb : Below w.heap.size w w') : InsAt w' b o x where
  c0 := (hb.cell (World.block_lt_of_cell? w _ h.c0)).trans h.c0
  c1 := (hb.cell (World.block_lt_of_cell? w _ h.c1)).trans h.c1
  c2 := (hb.cell (World.block_lt_of_cell? w _ h.c2)).trans h.c2
  c3 := (hb.cell (World.block_lt_of_cell? w _ h.c3)).trans h.c3
  c4 := (hb.cell (World.block_lt_of_cell? w _ h.c4)).trans h.c4

/-- The program l lies at the address a. -/
def Prg (w : World) (a : Option Addr) (l : List Ins) : Prop := ∀ i, i < l.length → ∃ b off, a = some ⟨b, off, none⟩ ∧ InsAt w b (off + i * 5) (l.getD i default)

theorem Prg.kept {w w' : World} {a : Option Addr} {l : List Ins} (h : Prg w a l) (hb : Below w.heap.size w w') : Prg w' a l := fun i hi => by
  obtain ⟨b, off, e, hc⟩ := h i hi
  exact ⟨b, off, e, hc.kept hb⟩

end Go.Proofs.YtfkdaimhdjaefaaDoor
