/- Cores and wants as values and in memory. -/
import Derived.Test.YtfkdaimhdjaefaaDoorCW8
import Derived.Test.YtfkdaimhdjaefaaDoorGAa
import Derived.Laws.Rows
import Derived.Laws.IdiomCopy
import Derived.Deep.MidRow
import Derived.Deep.CutRange
namespace Go.Proofs.YtfkdaimhdjaefaaDoor
open Go.RowKit

/-- A core: the program counter, and what each register holds. -/
structure Core where
  pc : Int
  r : Nat → Int

def coreA (c : Core) : Array Value := #[.int .i64 c.pc, .int .i64 (c.r 0), .int .i64 (c.r 1), .int .i64 (c.r 2), .int .i64 (c.r 3), .int .i64 (c.r 4), .int .i64 (c.r 5), .int .i64 (c.r 6), .int .i64 (c.r 7)]
def coreV (c : Core) : Value := .agg (coreA c)
def wantA (k t v : Int) : Array Value := #[.int .i64 k, .int .i64 t, .int .i64 v]
def wantV (k t v : Int) : Value := .agg (wantA k t v)

/-- The program counter one on. -/
def Core.next (c : Core) : Core := { c with pc := wrap64 (c.pc + 1) }
/-- The register j holds v. -/
def Core.set (c : Core) (j : Nat) (v : Int) : Core := { c with r := fun i => if i = j then v else c.r i }

theorem heap_set_self {w : World} {g o : Nat} {cs : Array Value} {t : TypeId} (h : w.heap[g]? = some (.cells cs t (0, 0))) (v : Value) : (w.setCell ⟨g, o, none⟩ v).heap[g]? = some (.cells (cs.setIfInBounds o v) t (0, 0)) :=
  heap_setCell_same w g o cs t v h

/-- As it was, but for one block. -/
structure Oth (b : Nat) (w w' : World) : Prop where
  os : w'.os = w.os
  tape : w'.tape = w.tape
  output : w'.output = w.output
  size : w'.heap.size = w.heap.size
  block : ∀ k, k ≠ b → w'.heap[k]? = w.heap[k]?

theorem Oth.setCell (w : World) (b o : Nat) (v : Value) : Oth b w (w.setCell ⟨b, o, none⟩ v) := ⟨rfl, rfl, rfl, by simp [World.setCell], fun k hk => Below.heap_setCell _ _ _ _ hk⟩
theorem Oth.refl (b : Nat) (w : World) : Oth b w w := ⟨rfl, rfl, rfl, rfl, fun _ _ => rfl⟩
theorem Oth.trans {b : Nat} {w1 w2 w3 : World} (h : Oth b w1 w2) (k : Oth b w2 w3) : Oth b w1 w3 :=
  ⟨k.os.trans h.os, k.tape.trans h.tape, k.output.trans h.output, k.size.trans h.size, fun i hi => (k.block i hi).trans (h.block i hi)⟩
theorem Oth.below {b B : Nat} {a w w' : World} (h : Oth b w w') (hb : Below B a w) (hB : B ≤ b) : Below B a w' :=
  ⟨h.os.trans hb.os, h.tape.trans hb.tape, h.output.trans hb.output, by rw [h.size]; exact hb.size, fun k hk => (h.block k (by omega)).trans (hb.block k hk)⟩
theorem Oth.setCells (b : Nat) : ∀ (vs : List Value) (o : Nat) (w : World), Oth b w (w.setCells b o vs)
  | [], _, w => Oth.refl b w
  | v :: vs, o, w => (Oth.setCell w b o v).trans (Oth.setCells b vs (o + 1) _)

theorem setAll_at : ∀ (vs : List Value) (cs : Array Value) (o i : Nat), o + vs.length ≤ cs.size → (Alu.setAll cs o vs)[i]? = if o ≤ i ∧ i < o + vs.length then vs[i - o]? else cs[i]?
  | [], cs, o, i, _ => by rw [if_neg (by simp)]; rfl
  | v :: vs, cs, o, i, h => by
    simp only [List.length_cons] at h ⊢
    rw [Alu.setAll, setAll_at vs (cs.setIfInBounds o v) (o + 1) i (by simp; omega)]
    by_cases h1 : o + 1 ≤ i ∧ i < o + 1 + vs.length
    · rw [if_pos h1, if_pos (by omega), show i - o = i - (o + 1) + 1 by omega, List.getElem?_cons_succ]
    · rw [if_neg h1]
      by_cases h2 : i = o
      · subst h2
        rw [if_pos (by omega), Nat.sub_self, List.getElem?_cons_zero, Array.getElem?_setIfInBounds_self_of_lt (by omega)]
      · rw [if_neg (by omega), Array.getElem?_setIfInBounds_ne (by omega)]

theorem setAll_whole (cs vs : Array Value) (h : vs.size = cs.size) : Alu.setAll cs 0 vs.toList = vs := by
  apply Array.ext_getElem?
  intro i
  rw [setAll_at _ _ _ _ (by simp [h])]
  by_cases h1 : i < vs.size
  · rw [if_pos (by simpa using h1)]
    simp
  · rw [if_neg (by simpa using h1)]
    simp only [Nat.not_lt] at h1
    rw [Array.getElem?_eq_none (by omega), Array.getElem?_eq_none h1]

/-- The cells cs, of one type, are a block of the call's own. -/
structure Box (w : World) (t : TypeId) (b : Nat) (cs : Array Value) : Prop where
  obj : w.heap[b]? = some (.cells cs t (0, 0))
section
variable {w w' : World} {t : TypeId} {b : Nat} {cs : Array Value}
theorem Box.cell (h : Box w t b cs) (i : Nat) : w.cell? ⟨b, i, none⟩ = cs[i]? := by rw [cell_of_row _ _ _ _ _ _ h.obj]
theorem Box.fr (h : Box w t b cs) (i : Nat) : w.frozen? ⟨b, i, none⟩ = false := by simp [World.frozen?, h.obj]
theorem Box.lt (h : Box w t b cs) : b < w.heap.size := (Array.getElem?_eq_some_iff.1 h.obj).1
theorem Box.bel (h : Box w t b cs) (hb : Below w.heap.size w w') : Box w' t b cs := ⟨by rw [hb.block b h.lt]; exact h.obj⟩
theorem Box.oth {g : Nat} (h : Box w t b cs) (hb : Oth g w w') (hg : b ≠ g) : Box w' t b cs := ⟨by rw [hb.block b hg]; exact h.obj⟩
theorem Box.put (h : Box w t b cs) (o : Nat) (v : Value) : Box (w.setCell ⟨b, o, none⟩ v) t b (cs.setIfInBounds o v) := ⟨heap_set_self h.obj v⟩
theorem Box.new (w : World) (t : TypeId) (cs : Array Value) : Box (w.alloc (.cells cs t)) t w.heap.size cs := ⟨heap_alloc_new _ _⟩
theorem Box.store (h : Box w t b cs) (vs : Array Value) (hl : vs.size = cs.size) (hv : ∀ v ∈ vs.toList, v.oneCell' = true) :
    ∃ W : World, (storeCells ⟨b, 0, none⟩ vs.toList).run Tryd.prog w = .ok () W ∧ Box W t b vs ∧ Oth b w W := by
  have h1 := run_storeCells_cells (P := Tryd.prog) b 0 vs.toList 0 w (fun j hj => by simp only [Nat.zero_add]; rw [h.cell]; simp at hj; simp; omega) (fun j _ => h.fr _) hv
  exact ⟨_, h1, ⟨by rw [Alu.setCells_row _ _ _ _ _ _ h.obj, setAll_whole _ _ hl]⟩, Oth.setCells _ _ _ _⟩
end
end Go.Proofs.YtfkdaimhdjaefaaDoor
