/- Two rows of the call's own that are written over: the rest stays. -/
import Derived.Test.YtngihjmhedkanabDoorK1
namespace Go.Proofs.YtngihjmhedkanabDoor
open Go.RowKit

/-- The world is as it was, but for two blocks and what is new. -/
structure Apart (w w' : World) (r1 r2 : Option Nat) : Prop where
  os : w'.os = w.os
  tape : w'.tape = w.tape
  output : w'.output = w.output
  size : w.heap.size ≤ w'.heap.size
  block : ∀ k, k < w.heap.size → some k ≠ r1 → some k ≠ r2 → w'.heap[k]? = w.heap[k]?

theorem Apart.refl (w : World) (r1 r2 : Option Nat) : Apart w w r1 r2 := ⟨rfl, rfl, rfl, Nat.le_refl _, fun _ _ _ _ => rfl⟩

theorem Apart.step {w0 w w' : World} {r1 r2 r : Option Nat} (h : Apart w0 w r1 r2) (hg : w.grownBy w' r) (hr : ∀ g, r = some g → some g = r1 ∨ some g = r2 ∨ w0.heap.size ≤ g) : Apart w0 w' r1 r2 :=
  ⟨hg.os.trans h.os, hg.tape.trans h.tape, hg.output.trans h.output, Nat.le_trans h.size hg.size, fun k hk h1 h2 => by
    rw [hg.block k (Nat.lt_of_lt_of_le hk h.size) (fun e => by
      rcases hr k e.symm with h3 | h3 | h3
      · exact h1 h3
      · exact h2 h3
      · omega)]
    exact h.block k hk h1 h2⟩

theorem Apart.below {w w0 w' : World} {r1 r2 : Option Nat} (h : Apart w0 w' r1 r2) (hb : Below w.heap.size w w0) (h1 : ∀ k, r1 = some k → w.heap.size ≤ k) (h2 : ∀ k, r2 = some k → w.heap.size ≤ k) : Below w.heap.size w w' :=
  ⟨h.os.trans hb.os, h.tape.trans hb.tape, h.output.trans hb.output, Nat.le_trans hb.size h.size, fun k hk => by
    rw [h.block k (Nat.lt_of_lt_of_le hk hb.size) (fun e => by have := h1 k e.symm; omega) (fun e => by have := h2 k e.symm; omega)]
    exact hb.block k hk⟩

theorem Apart.drew {w0 w : World} {r1 r2 : Option Nat} (h : Apart w0 w r1 r2) (n : Nat) : Apart w0 (w.drewN n) r1 r2 := ⟨h.os, h.tape, h.output, h.size, h.block⟩

theorem owns_apart {w w' : World} {r1 r2 : Option Nat} {B n s : Nat} {e : TypeId} {v : Value} {xs : List Value} (h : w.ownsRow B e s v n xs) (ha : Apart w w' r1 r2) (h1 : ∀ k, v.ownBlock = some k → some k ≠ r1 ∧ some k ≠ r2) : w'.ownsRow B e s v n xs := by
  have hlt := h.lt
  obtain ⟨h2, h3⟩ := h
  refine ⟨h2, ?_⟩
  rcases h3 with h3 | ⟨g, cap, cur, rfl, h4, h5, h6⟩
  · exact .inl h3
  · refine .inr ⟨g, cap, cur, rfl, h4, ?_, h6⟩
    rw [ha.block g (hlt g rfl).2 (h1 g rfl).1 (h1 g rfl).2]
    exact h5

theorem owns_drewN {w : World} {B n s : Nat} {e : TypeId} {v : Value} {xs : List Value} (h : w.ownsRow B e s v n xs) (k : Nat) : (w.drewN k).ownsRow B e s v n xs := h

/-- What is cut off a row of the call's own. -/
theorem Byt.take {w : World} {a : Option Addr} {bs : List Nat} (h : Byt w a bs) (m : Nat) : Byt w a (bs.take m) := fun i hi => by
  have hi' : i < bs.length := by simp at hi; omega
  have him : i < m := by simp at hi; omega
  obtain ⟨b, off, e, hc⟩ := h i hi'
  refine ⟨b, off, e, ?_⟩
  have e2 : (bs.take m).getD i 0 = bs.getD i 0 := by simp [List.getD_eq_getElem?_getD, him]
  rw [e2]
  exact hc

theorem byt_tail {w : World} {b off : Nat} {bs cs : List Nat} (h : Byt w (some ⟨b, off, none⟩) (bs ++ cs)) : Byt w (some ⟨b, off + bs.length, none⟩) cs := fun i hi => by
  refine ⟨b, off + bs.length, rfl, ?_⟩
  have := h.at (bs.length + i) (by simp; omega)
  rw [Nat.add_assoc, this]
  rw [List.getD_eq_getElem?_getD, List.getD_eq_getElem?_getD, List.getElem?_append_right (by omega), Nat.add_sub_cancel_left]

theorem byt_head {w : World} {a : Option Addr} {bs cs : List Nat} (h : Byt w a (bs ++ cs)) : Byt w a bs := by
  have := h.take bs.length
  rwa [List.take_left'  rfl] at this
theorem prg_head {w : World} {a : Option Addr} {l m : List Ins} (h : Prg w a (l ++ m)) : Prg w a l := by
  have := h.take l.length
  rwa [List.take_left'  rfl] at this

/-- Five cells written. -/
def put5 (w : World) (g k : Nat) (x : Ins) : World := ((((w.setCell ⟨g, k, none⟩ (.int .i64 x.op)).setCell ⟨g, k + 1, none⟩ (.int .i64 x.a)).setCell ⟨g, k + 2, none⟩ (.int .i64 x.b)).setCell ⟨g, k + 3, none⟩ (.int .i64 x.c)).setCell ⟨g, k + 4, none⟩ (.int .i64 x.imm)

theorem stored5 {w : World} {B g n cap : Nat} {e : TypeId} {s : Nat} {xs : List Value} (h : w.ownsRow B e s (.slice (some ⟨g, 0, none⟩) n cap) n xs) (k : Nat) (x : Ins) :
    (put5 w g k x).ownsRow B e s (.slice (some ⟨g, 0, none⟩) n cap) n (set5 xs k x) ∧ w.grownBy (put5 w g k x) (some g) := by
  have s1 := h.stored k (.int .i64 x.op)
  have s2 := s1.1.stored (k + 1) (.int .i64 x.a)
  have s3 := s2.1.stored (k + 2) (.int .i64 x.b)
  have s4 := s3.1.stored (k + 3) (.int .i64 x.c)
  have s5 := s4.1.stored (k + 4) (.int .i64 x.imm)
  refine ⟨s5.1, ?_⟩
  have tr : ∀ {a b c : World}, a.grownBy b (some g) → b.grownBy c (some g) → a.grownBy c (some g) := fun {a b c} p q =>
    ⟨q.os.trans p.os, q.tape.trans p.tape, q.output.trans p.output, Nat.le_trans p.size q.size, fun i hi hne => by rw [q.block i (Nat.lt_of_lt_of_le hi p.size) hne, p.block i hi hne]⟩
  exact tr (tr (tr (tr s1.2 s2.2) s3.2) s4.2) s5.2
end Go.Proofs.YtngihjmhedkanabDoor
