/- A copy changed in one place; what the second text shows. -/
import Derived.Test.YtalaajniammggaaGreatDoorL1
import Derived.Test.YtalaajniammggaaGreatDoorZRb
import Derived.OwnWalk
namespace Go.Proofs.YtalaajniammggaaGreatDoor
open Go.RowKit

theorem addr_add (b off j : Nat) : (⟨b, off, none⟩ : Addr).add j = ⟨b, off + j, none⟩ := by
  unfold Addr.add
  split
  · rename_i h; subst h; rfl
  · rfl

theorem insAt_cells {w : World} {b o : Nat} {x : Ins} (h : InsAt w b o x) (r : Nat) (hr : r < 5) : w.cell? ⟨b, o + r, none⟩ = (insCells x)[r]? := by
  have : r = 0 ∨ r = 1 ∨ r = 2 ∨ r = 3 ∨ r = 4 := by omega
  rcases this with rfl | rfl | rfl | rfl | rfl
  · exact h.c0
  · exact h.c1
  · exact h.c2
  · exact h.c3
  · exact h.c4

theorem prg_cells {w : World} {a : Option Addr} {l : List Ins} (h : Prg w a l) : ∀ ad, a = some ad → ∀ j u, (pCells l)[j]? = some u → w.cell? (ad.add j) = some u := by
  intro ad ha j u hu
  have hj : j < (pCells l).length := by
    rcases Nat.lt_or_ge j (pCells l).length with h | h
    · exact h
    · rw [List.getElem?_eq_none h] at hu; cases hu
  rw [pCells_len] at hj
  obtain ⟨b, off, e, hc⟩ := h (j / 5) (by omega)
  rw [ha] at e
  obtain rfl := Option.some.inj e
  have h1 := insAt_cells hc (j % 5) (by omega)
  have h2 := pCells_at l (j / 5) (j % 5) (by omega) (by omega)
  rw [show j / 5 * 5 + j % 5 = j by omega] at h2
  rw [addr_add, show off + j = off + j / 5 * 5 + j % 5 by omega, h1, ← h2, hu]

theorem pCells_one (l : List Ins) : ∀ u ∈ pCells l, u.oneCell' = true := by
  intro u hu
  simp only [pCells, List.mem_flatMap] at hu
  obtain ⟨x, _, hx⟩ := hu
  simp only [insCells, List.mem_cons, List.not_mem_nil, or_false] at hx
  rcases hx with rfl | rfl | rfl | rfl | rfl <;> rfl

def set5 (xs : List Value) (k : Nat) (x : Ins) : List Value := ((((xs.set k (.int .i64 x.op)).set (k + 1) (.int .i64 x.a)).set (k + 2) (.int .i64 x.b)).set (k + 3) (.int .i64 x.c)).set (k + 4) (.int .i64 x.imm)

theorem set5_at (xs : List Value) (k : Nat) (x : Ins) (hk : k + 5 ≤ xs.length) (r : Nat) (hr : r < 5) : (set5 xs k x)[k + r]? = (insCells x)[r]? := by
  have : r = 0 ∨ r = 1 ∨ r = 2 ∨ r = 3 ∨ r = 4 := by omega
  unfold set5
  rcases this with rfl | rfl | rfl | rfl | rfl <;> simp only [List.getElem?_set, List.length_set] <;> simp [insCells] <;> omega
theorem set5_ne (xs : List Value) (k : Nat) (x : Ins) (t : Nat) (ht : t < k ∨ k + 5 ≤ t) : (set5 xs k x)[t]? = xs[t]? := by
  unfold set5
  rw [List.getElem?_set_ne (by omega), List.getElem?_set_ne (by omega), List.getElem?_set_ne (by omega), List.getElem?_set_ne (by omega), List.getElem?_set_ne (by omega)]
theorem set5_len (xs : List Value) (k : Nat) (x : Ins) : (set5 xs k x).length = xs.length := by simp [set5]

theorem set5_cells (l : List Ins) (k : Nat) (x : Ins) (hk : k < l.length) : set5 (pCells l) (k * 5) x = pCells (l.set k x) := by
  apply List.ext_getElem?
  intro t
  by_cases ht : t < l.length * 5
  · have h2 := pCells_at (l.set k x) (t / 5) (t % 5) (by rw [List.length_set]; omega) (by omega)
    rw [show t / 5 * 5 + t % 5 = t by omega] at h2
    rw [h2]
    by_cases e : t / 5 = k
    · have h1 := set5_at (pCells l) (k * 5) x (by rw [pCells_len]; omega) (t % 5) (by omega)
      rw [show k * 5 + t % 5 = t by omega] at h1
      rw [h1, e, List.getD_eq_getElem?_getD, List.getElem?_set_self hk, Option.getD_some]
    · rw [set5_ne _ _ _ _ (by omega), List.getD_eq_getElem?_getD, List.getElem?_set_ne (Ne.symm e), ← List.getD_eq_getElem?_getD]
      have h1 := pCells_at l (t / 5) (t % 5) (by omega) (by omega)
      rw [show t / 5 * 5 + t % 5 = t by omega] at h1
      exact h1
  · rw [List.getElem?_eq_none (by rw [set5_len, pCells_len]; omega), List.getElem?_eq_none (by rw [pCells_len, List.length_set]; omega)]

def put5 (w : World) (g k : Nat) (x : Ins) : World := ((((w.setCell ⟨g, k, none⟩ (.int .i64 x.op)).setCell ⟨g, k + 1, none⟩ (.int .i64 x.a)).setCell ⟨g, k + 2, none⟩ (.int .i64 x.b)).setCell ⟨g, k + 3, none⟩ (.int .i64 x.c)).setCell ⟨g, k + 4, none⟩ (.int .i64 x.imm)

theorem stored5 {w : World} {B g n cap : Nat} {e : TypeId} {s : Nat} {xs : List Value} (h : w.ownsRow B e s (.slice (some ⟨g, 0, none⟩) n cap) n xs) (k : Nat) (x : Ins) :
    (put5 w g k x).ownsRow B e s (.slice (some ⟨g, 0, none⟩) n cap) n (set5 xs k x) ∧ w.grownBy (put5 w g k x) (some g) := by
  have s1 := h.stored k (.int .i64 x.op)
  have s2 := s1.1.stored (k + 1) (.int .i64 x.a)
  have s3 := s2.1.stored (k + 2) (.int .i64 x.b)
  have s4 := s3.1.stored (k + 3) (.int .i64 x.c)
  have s5 := s4.1.stored (k + 4) (.int .i64 x.imm)
  refine ⟨s5.1, ?_⟩
  have tr : ∀ {a b c : World}, a.grownBy b (some g) → b.grownBy c (some g) → a.grownBy c (some g) := fun {a b c} p q =>
    ⟨q.os.trans p.os, q.tape.trans p.tape, q.output.trans p.output, Nat.le_trans p.size q.size, fun i hi hne => by rw [q.block i (Nat.lt_of_lt_of_le hi p.size) hne, p.block i hi hne]⟩
  exact tr (tr (tr (tr s1.2 s2.2) s3.2) s4.2) s5.2

theorem own_noneP (w : World) : (w.alloc (.cells #[] 37)).ownsRow w.heap.size 37 5 (.slice (some ⟨w.heap.size, 0, none⟩) 0 0) 0 (pCells []) :=
  ⟨by simp [pCells], .inr ⟨w.heap.size, 0, #[], rfl, Nat.le_refl _, heap_alloc_new w _, by simp, by unfold maxLen; omega, by simp, by simp [pCells]⟩⟩

theorem own_some5 {w : World} {B e n : Nat} {v : Value} {xs : List Value} (h : w.ownsRow B e 5 v n xs) (hn : 0 < n) : ∃ g cap, v = .slice (some ⟨g, 0, none⟩) n cap ∧ B ≤ g := by
  rcases h.2 with ⟨rfl, rfl⟩ | ⟨g, cap, cur, rfl, hb, _⟩
  · omega
  · exact ⟨_, _, rfl, hb⟩

/-- At a place of both texts' lines: they are the same just where the instructions are. -/
theorem line_same {fp : Int → List UInt8} (F : FP fp) {m : List Ins} {x : Ins} {k i : Nat} (hz : (mayL m 8).1 = 0) (hx : (wrong x m.length 8).1 = 0) (ix : InR x.imm) (im : ∀ y ∈ m, InR y.imm) (hi : i < m.length) :
    (lineL fp (m.getD i default) = lineL fp ((m.set k x).getD i default)) ↔ (i ≠ k ∨ x = m.getD k default) := by
  have hmem := getD_mem hi
  by_cases e : i = k
  · subst e
    have e1 : (m.set i x).getD i default = x := by rw [List.getD_eq_getElem?_getD, List.getElem?_set_self hi, Option.getD_some]
    rw [e1]
    constructor
    · intro h
      exact .inr (line_inj F ((may_iff.1 hz).2 _ hmem) hx (im _ hmem) ix h).symm
    · rintro (h | h)
      · exact absurd rfl h
      · rw [← h]
  · have e1 : (m.set k x).getD i default = m.getD i default := by rw [List.getD_eq_getElem?_getD, List.getElem?_set_ne (Ne.symm e), ← List.getD_eq_getElem?_getD]
    rw [e1]
    exact ⟨fun _ => .inl e, fun _ => rfl⟩

/-- Where the rest points. -/
theorem rem_at (z : Int) {n : Nat} (hn : 0 < n) : ∃ k : Nat, k < n ∧ ((0 ≤ z.tmod n ∧ z.tmod n = (k : Int)) ∨ (z.tmod n < 0 ∧ z.tmod n + n = (k : Int))) := by
  have h1 : z.tmod n < (n : Int) := Int.tmod_lt_of_pos z (by omega)
  have h2 : -(n : Int) < z.tmod n := by
    have := Int.lt_tmod_of_pos z (b := (n : Int)) (by omega)
    omega
  by_cases h : 0 ≤ z.tmod n
  · exact ⟨(z.tmod n).toNat, by omega, .inl ⟨h, by omega⟩⟩
  · exact ⟨(z.tmod n + n).toNat, by omega, .inr ⟨by omega, by omega⟩⟩
end Go.Proofs.YtalaajniammggaaGreatDoor
