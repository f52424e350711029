/- WheelTurns. -/
import Derived.Test.YtdpbkoohhnpjmaaWT5
import Derived.Test.YtdpbkoohhnpjmaaWWJ
namespace Go.Proofs.Ytdpbkoohhnpjmaa
open Go.RowKit Go.Sort Go.Shelf Go.Maps

/-- A step: its kind, on which one, the number, the time. -/
structure Op4 where
  kd : Int
  on : Int
  id : Int
  at' : Int
def opP (x : Op4) : List Value := [.int .i64 x.kd, .int .i64 x.on, .int .i64 x.id, .int .i64 x.at']
def opC (l : List Op4) : List Value := l.flatMap opP
def op0 : Op4 := ⟨0, 0, 0, 0⟩
def oAt (l : List Op4) (i : Nat) : Op4 := l.getD i op0
theorem oAt_mem {l : List Op4} {i : Nat} (h : i < l.length) : oAt l i ∈ l := by
  unfold oAt
  rw [List.getD_eq_getElem?_getD, List.getElem?_eq_getElem h]
  exact List.getElem_mem h
theorem opC_at : ∀ (l : List Op4) (i : Nat), i < l.length → (opC l)[i * 4]? = some (.int .i64 (oAt l i).kd) ∧ (opC l)[i * 4 + 1]? = some (.int .i64 (oAt l i).on) ∧ (opC l)[i * 4 + 2]? = some (.int .i64 (oAt l i).id) ∧ (opC l)[i * 4 + 3]? = some (.int .i64 (oAt l i).at')
  | [], i, h => absurd h (Nat.not_lt_zero i)
  | t :: ts, 0, _ => ⟨rfl, rfl, rfl, rfl⟩
  | t :: ts, i + 1, h => by
    have ih := opC_at ts i (by simpa using h)
    have e : ∀ j, (opC (t :: ts))[(i + 1) * 4 + j]? = (opC ts)[i * 4 + j]? := fun j => by
      simp only [opC, List.flatMap_cons]
      rw [List.getElem?_append_right (by rw [show (opP t).length = 4 from rfl]; omega), show (opP t).length = 4 from rfl, show (i + 1) * 4 + j - 4 = i * 4 + j by omega]
    exact ⟨(e 0).trans ih.1, (e 1).trans ih.2.1, (e 2).trans ih.2.2.1, (e 3).trans ih.2.2.2⟩
theorem rd_op {w : World} {a : Option Addr} {l : List Op4} (h : Rd w a (opC l)) (i : Nat) (hi : i < l.length) : ∃ g o, a = some ⟨g, o, none⟩ ∧ w.cell? ⟨g, o + i * 4, none⟩ = some (.int .i64 (oAt l i).kd) ∧ w.cell? ⟨g, o + i * 4 + 1, none⟩ = some (.int .i64 (oAt l i).on) ∧ w.cell? ⟨g, o + i * 4 + 2, none⟩ = some (.int .i64 (oAt l i).id) ∧ w.cell? ⟨g, o + i * 4 + 3, none⟩ = some (.int .i64 (oAt l i).at') := by
  obtain ⟨k0, k1, k2, k3⟩ := opC_at l i hi
  obtain ⟨g, o, rfl, h0⟩ := h _ _ k0
  obtain ⟨g', o', e, h1⟩ := h _ _ k1
  cases e
  obtain ⟨g', o', e, h2⟩ := h _ _ k2
  cases e
  obtain ⟨g', o', e, h3⟩ := h _ _ k3
  cases e
  exact ⟨g, o, rfl, h0, h1, h2, h3⟩
theorem rem_at (z : Int) {n : Nat} (hn : 0 < n) : ∃ k : Nat, k < n ∧ ((0 ≤ z.tmod n ∧ z.tmod n = (k : Int)) ∨ (z.tmod n < 0 ∧ z.tmod n + n = (k : Int))) := by
  have h1 : -(n : Int) < z.tmod n := by
    have := Int.lt_tmod_of_pos z (b := (n : Int)) (by omega)
    omega
  have h2 : z.tmod n < (n : Int) := Int.tmod_lt_of_pos z (by omega)
  by_cases h : 0 ≤ z.tmod n
  · exact ⟨(z.tmod n).toNat, by omega, .inl ⟨h, by omega⟩⟩
  · exact ⟨(z.tmod n + n).toNat, by omega, .inr ⟨by omega, by omega⟩⟩

/-- None. -/
theorem Many.none (w : World) (tot : Nat) : Many w w 0 none 0 none 0 tot [] [] [] (fun _ _ => False) :=
  ⟨rfl, rfl, rfl, Row.nil, Row.nil, fun i hi => absurd hi (Nat.not_lt_zero _), fun i _ _ hi => absurd hi (Nat.not_lt_zero _), (fun k hk => by cases hk), (fun k hk => by cases hk), fun i hi => absurd hi (Nat.not_lt_zero _), fun i hi => absurd hi (Nat.not_lt_zero _), Below.refl _ _⟩
/-- The lists stand so. -/
def ManyAt (w wr : World) (n : Nat) (a1 : Option Addr) (c1 : Nat) (a2 : Option Addr) (c2 : Nat) (tot : Nat) : Prop := ∃ B1 B2 Ls F, Many w wr n a1 c1 a2 c2 tot B1 B2 Ls F
/-- The first one. -/
theorem many_first {w w1 : World} {b : Nat} {F0 : Nat → Prop} (hW : Wh w1 b F0 []) (hF0 : ∀ k, F0 k → w.heap.size ≤ k) (hb1 : Below w.heap.size w w1) :
    ManyAt w (((w1.alloc (.cells #[.pointer (some ⟨b, 0, none⟩)] 24)).alloc (.cells #[.slice none 0 0] 30)).alloc (.cells #[.pointer (some ⟨w1.heap.size + 1, 0, none⟩)] 27)) 1 (some ⟨w1.heap.size, 0, none⟩) 1 (some ⟨w1.heap.size + 1 + 1, 0, none⟩) 1 0 := by
  have hs2 : (w1.alloc (.cells #[.pointer (some ⟨b, 0, none⟩)] 24)).heap.size = w1.heap.size + 1 := by simp
  have r1 := row_new (size := 1) (n := 1) (heap_alloc_new w1 (.cells #[.pointer (some ⟨b, 0, none⟩)] 24)) (by simp) (by unfold maxLen; omega)
  have r2 := row_new (size := 1) (n := 1) (heap_alloc_new ((w1.alloc (.cells #[.pointer (some ⟨b, 0, none⟩)] 24)).alloc (.cells #[.slice none 0 0] 30)) (.cells #[.pointer (some ⟨w1.heap.size + 1, 0, none⟩)] 27)) (by simp) (by unfold maxLen; omega)
  have hs3 : ((w1.alloc (.cells #[.pointer (some ⟨b, 0, none⟩)] 24)).alloc (.cells #[.slice none 0 0] 30)).heap.size = w1.heap.size + 1 + 1 := by simp
  rw [hs3] at r2
  obtain ⟨F', hF⟩ := (Many.none w 0).grow (w1 := w1) (w2 := w1.alloc (.cells #[.pointer (some ⟨b, 0, none⟩)] 24)) (w3 := (((w1.alloc (.cells #[.pointer (some ⟨b, 0, none⟩)] 24)).alloc (.cells #[.slice none 0 0] 30)).alloc (.cells #[.pointer (some ⟨w1.heap.size + 1, 0, none⟩)] 27))) hW hF0 hb1
    (a1' := some ⟨w1.heap.size, 0, none⟩) (c1' := 1) (a2' := some ⟨w1.heap.size + 1 + 1, 0, none⟩) (c2' := 1) r1 (Mod.of_below _ (below_al _ _)) (fun k hk => .inr (by cases hk; exact Nat.le_refl _)) (by rw [hs2]; exact r2) (Mod.of_below _ (below_al _ _)) (fun k hk => .inr (by cases hk; rw [hs3]; exact Nat.le_refl _))
  exact ⟨_, _, _, _, hF⟩
end Go.Proofs.Ytdpbkoohhnpjmaa
