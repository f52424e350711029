/- Several wheels, and the document's beside them. -/
import Derived.Test.YtdpbkoohhnpjmaaWT4
namespace Go.Proofs.Ytdpbkoohhnpjmaa
open Go.RowKit Go.Sort Go.Shelf Go.Maps

def pC (bs : List Nat) : List Value := bs.map (fun b => .pointer (some ⟨b, 0, none⟩))
theorem pC_len (bs : List Nat) : (pC bs).length = bs.length * 1 := by simp [pC]
theorem pC_app (l m : List Nat) : pC (l ++ m) = pC l ++ pC m := by simp [pC]
def nAt (bs : List Nat) (i : Nat) : Nat := bs.getD i 0
def lAt (Ls : List (List Th)) (i : Nat) : List Th := Ls.getD i []
theorem pC_at (bs : List Nat) (i : Nat) (h : i < bs.length) : (pC bs)[i]? = some (.pointer (some ⟨nAt bs i, 0, none⟩)) := by
  simp [pC, nAt, List.getD_eq_getElem?_getD, List.getElem?_eq_getElem h]
theorem nAt_app {bs : List Nat} {x i : Nat} (h : i < bs.length) : nAt (bs ++ [x]) i = nAt bs i := by
  unfold nAt
  rw [List.getD_eq_getElem?_getD, List.getD_eq_getElem?_getD, List.getElem?_append_left h]
theorem nAt_end {bs : List Nat} {x : Nat} : nAt (bs ++ [x]) bs.length = x := by
  unfold nAt
  rw [List.getD_eq_getElem?_getD, List.getElem?_append_right (Nat.le_refl _)]
  simp
theorem lAt_app {Ls : List (List Th)} {x : List Th} {i : Nat} (h : i < Ls.length) : lAt (Ls ++ [x]) i = lAt Ls i := by
  unfold lAt
  rw [List.getD_eq_getElem?_getD, List.getD_eq_getElem?_getD, List.getElem?_append_left h]
theorem lAt_end {Ls : List (List Th)} {x : List Th} : lAt (Ls ++ [x]) Ls.length = x := by
  unfold lAt
  rw [List.getD_eq_getElem?_getD, List.getElem?_append_right (Nat.le_refl _)]
  simp
theorem lAt_set {Ls : List (List Th)} {x : List Th} {i j : Nat} (h : i < Ls.length) : lAt (Ls.set i x) j = if j = i then x else lAt Ls j := by
  unfold lAt
  rw [List.getD_eq_getElem?_getD, List.getD_eq_getElem?_getD, List.getElem?_set]
  by_cases e : i = j
  · subst e
    rw [if_pos rfl, if_pos h, if_pos rfl]
    rfl
  · rw [if_neg e, if_neg (fun e' => e e'.symm)]

/-- So many wheels, each with the document's beside it, and the two lists of them. -/
structure Many (w wr : World) (n : Nat) (a1 : Option Addr) (c1 : Nat) (a2 : Option Addr) (c2 : Nat) (tot : Nat) (B1 B2 : List Nat) (Ls : List (List Th)) (F : Nat → Nat → Prop) : Prop where
  n1 : B1.length = n
  n2 : B2.length = n
  n3 : Ls.length = n
  row1 : Row wr 24 1 a1 n c1 (pC B1)
  row2 : Row wr 27 1 a2 n c2 (pC B2)
  each : ∀ i, i < n → Pr wr (nAt B1 i) (nAt B2 i) (F i) (lAt Ls i)
  apart : ∀ i j k, i < n → j < n → F i k → F j k → i = j
  r1 : ∀ k, blk a1 = some k → w.heap.size ≤ k ∧ blk a2 ≠ some k ∧ ∀ i, i < n → ¬ F i k
  r2 : ∀ k, blk a2 = some k → w.heap.size ≤ k ∧ ∀ i, i < n → ¬ F i k
  new : ∀ i, i < n → ∀ k, F i k → w.heap.size ≤ k
  len : ∀ i, i < n → (lAt Ls i).length ≤ tot
  bel : Below w.heap.size w wr
section
variable {w wr w' : World} {n : Nat} {a1 a2 : Option Addr} {c1 c2 tot : Nat} {B1 B2 : List Nat} {Ls : List (List Th)} {F : Nat → Nat → Prop}
theorem Many.below (h : Many w wr n a1 c1 a2 c2 tot B1 B2 Ls F) (hb : Below wr.heap.size wr w') : Many w w' n a1 c1 a2 c2 tot B1 B2 Ls F :=
  ⟨h.n1, h.n2, h.n3, h.row1.below hb, h.row2.below hb, fun i hi => (h.each i hi).below hb, h.apart, h.r1, h.r2, h.new, h.len, h.bel.trans (hb.mono h.bel.size)⟩
theorem Many.more (h : Many w wr n a1 c1 a2 c2 tot B1 B2 Ls F) {t : Nat} (ht : tot ≤ t) : Many w wr n a1 c1 a2 c2 t B1 B2 Ls F := { h with len := fun i hi => Nat.le_trans (h.len i hi) ht }
theorem Many.cell1 (h : Many w wr n a1 c1 a2 c2 tot B1 B2 Ls F) (i : Nat) (hi : i < n) : ∃ g, a1 = some ⟨g, 0, none⟩ ∧ wr.cell? ⟨g, i, none⟩ = some (.pointer (some ⟨nAt B1 i, 0, none⟩)) := by
  obtain ⟨g, rfl, hc⟩ := h.row1.cell i (by omega)
  exact ⟨g, rfl, by rw [hc]; exact pC_at B1 i (by rw [h.n1]; exact hi)⟩
theorem Many.cell2 (h : Many w wr n a1 c1 a2 c2 tot B1 B2 Ls F) (i : Nat) (hi : i < n) : ∃ g, a2 = some ⟨g, 0, none⟩ ∧ wr.cell? ⟨g, i, none⟩ = some (.pointer (some ⟨nAt B2 i, 0, none⟩)) := by
  obtain ⟨g, rfl, hc⟩ := h.row2.cell i (by omega)
  exact ⟨g, rfl, by rw [hc]; exact pC_at B2 i (by rw [h.n2]; exact hi)⟩
/-- One of them changed. -/
theorem Many.step (h : Many w wr n a1 c1 a2 c2 tot B1 B2 Ls F) {i : Nat} (hi : i < n) {L' : List Th} (ho : PrOut wr (nAt B1 i) (nAt B2 i) (F i) L' w') {t : Nat} (ht : tot ≤ t) (hL : L'.length ≤ t) : ∃ F', Many w w' n a1 c1 a2 c2 t B1 B2 (Ls.set i L') F' := by
  obtain ⟨m, G, g, ng⟩ := ho
  have hli : i < Ls.length := by rw [h.n3]; exact hi
  have hlt : ∀ j, j < n → ∀ k, F j k → k < wr.heap.size := fun j hj => (h.each j hj).lt
  refine ⟨fun j => if j = i then G else F j, h.n1, h.n2, by rw [List.length_set]; exact h.n3, h.row1.mod m (fun k hk => (h.r1 k hk).2.2 i hi), h.row2.mod m (fun k hk => (h.r2 k hk).2 i hi), fun j hj => ?_, fun j l k hj hl h1 h2 => ?_, fun k hk => ⟨(h.r1 k hk).1, (h.r1 k hk).2.1, fun j hj => ?_⟩, fun k hk => ⟨(h.r2 k hk).1, fun j hj => ?_⟩, fun j hj k hk => ?_, fun j hj => ?_, h.bel.trans (m.below h.bel.size (fun k _ hk => h.new i hi k hk))⟩
  · rw [lAt_set hli]
    by_cases e : j = i
    · subst e
      simp only [if_true]
      exact g
    · simp only [if_neg e]
      exact (h.each j hj).mod m (fun k hk hk2 => e (h.apart j i k hj hi hk hk2))
  · by_cases e : j = i
    · by_cases e' : l = i
      · rw [e, e']
      · simp only [if_pos e] at h1
        simp only [if_neg e'] at h2
        rcases ng k h1 with h3 | h3
        · rw [e]; exact h.apart i l k hi hl h3 h2
        · have := hlt l hl k h2; omega
    · by_cases e' : l = i
      · simp only [if_neg e] at h1
        simp only [if_pos e'] at h2
        rcases ng k h2 with h3 | h3
        · rw [e']; exact h.apart j i k hj hi h1 h3
        · have := hlt j hj k h1; omega
      · simp only [if_neg e] at h1
        simp only [if_neg e'] at h2
        exact h.apart j l k hj hl h1 h2
  · by_cases e : j = i
    · simp only [if_pos e]
      intro h3
      rcases ng k h3 with h4 | h4
      · exact (h.r1 k hk).2.2 i hi h4
      · have := h.row1.lt k hk; omega
    · simp only [if_neg e]
      exact (h.r1 k hk).2.2 j hj
  · by_cases e : j = i
    · simp only [if_pos e]
      intro h3
      rcases ng k h3 with h4 | h4
      · exact (h.r2 k hk).2 i hi h4
      · have := h.row2.lt k hk; omega
    · simp only [if_neg e]
      exact (h.r2 k hk).2 j hj
  · by_cases e : j = i
    · simp only [if_pos e] at hk
      rcases ng k hk with h4 | h4
      · exact h.new i hi k h4
      · exact Nat.le_trans h.bel.size h4
    · simp only [if_neg e] at hk
      exact h.new j hj k hk
  · rw [lAt_set hli]
    split
    · exact hL
    · exact Nat.le_trans (h.len j hj) ht
/-- One more. -/
theorem Many.grow {w1 w2 w3 : World} (h : Many w wr n a1 c1 a2 c2 tot B1 B2 Ls F) {b : Nat} {F0 : Nat → Prop} (hW : Wh w1 b F0 []) (hF0 : ∀ k, F0 k → wr.heap.size ≤ k) (hb1 : Below wr.heap.size wr w1)
    {a1' a2' : Option Addr} {c1' c2' : Nat} (R1 : Row w2 24 1 a1' (n + 1) c1' (pC B1 ++ pC [b])) (M1 : Mod (fun k => blk a1 = some k) w1 w2) (N1 : ∀ k, blk a1' = some k → blk a1 = some k ∨ w1.heap.size ≤ k)
    (R2 : Row w3 27 1 a2' (n + 1) c2' (pC B2 ++ pC [w2.heap.size])) (M2 : Mod (fun k => blk a2 = some k) (w2.alloc (.cells #[.slice none 0 0] 30)) w3) (N2 : ∀ k, blk a2' = some k → blk a2 = some k ∨ (w2.alloc (.cells #[.slice none 0 0] 30)).heap.size ≤ k) :
    ∃ F', Many w w3 (n + 1) a1' c1' a2' c2' tot (B1 ++ [b]) (B2 ++ [w2.heap.size]) (Ls ++ [[]]) F' := by
  have hbA := below_al w2 (.cells #[.slice none 0 0] 30)
  have hszA : (w2.alloc (.cells #[.slice none 0 0] 30)).heap.size = w2.heap.size + 1 := by simp
  have h1 := h.below hb1
  have s1 := hb1.size
  have s2 := M1.size
  have s3 := M2.size
  have hlt : ∀ j, j < n → ∀ k, F j k → k < wr.heap.size := fun j hj => (h.each j hj).lt
  have ha1 : ∀ k, blk a1 = some k → k < wr.heap.size := h.row1.lt
  have ha2 : ∀ k, blk a2 = some k → k < wr.heap.size := h.row2.lt
  have d1 : ∀ j, j < n → ∀ k, F j k → ¬ blk a1 = some k := fun j hj k hk e => (h.r1 k e).2.2 j hj hk
  have d2 : ∀ j, j < n → ∀ k, F j k → ¬ blk a2 = some k := fun j hj k hk e => (h.r2 k e).2 j hj hk
  have hR : Rf (w2.alloc (.cells #[.slice none 0 0] 30)) w2.heap.size (fun k => k = w2.heap.size) [] := ⟨none, 0, ⟨heap_alloc_new w2 _, Row.nil, (fun k hk => by cases hk)⟩, (fun k hk => by
    rcases hk with hk | hk
    · exact hk
    · cases hk), (fun k hk => by omega)⟩
  have hFW : ∀ k, F0 k → k < w1.heap.size := hW.lt
  have hW3 : Wh w3 b F0 [] := ((hW.mod M1 (fun k hk e => by have := ha1 k e; have := hF0 k hk; omega)).below hbA).mod M2 (fun k hk e => by have := ha2 k e; have := hF0 k hk; omega)
  have hR3 : Rf w3 w2.heap.size (fun k => k = w2.heap.size) [] := hR.mod M2 (fun k hk e => by have := ha2 k e; omega)
  refine ⟨fun j => if j < n then F j else fun k => F0 k ∨ k = w2.heap.size, by simp [h.n1], by simp [h.n2], by simp [h.n3], ?_, by rw [pC_app]; exact R2, fun j hj => ?_, fun j l k hj hl h3 h4 => ?_, fun k hk => ⟨?_, fun e => ?_, fun j hj => ?_⟩, fun k hk => ⟨?_, fun j hj => ?_⟩, fun j hj k hk => ?_, fun j hj => ?_, ?_⟩
  · rw [pC_app]
    refine (R1.below hbA).mod M2 (fun k hk e => ?_)
    rcases N1 k hk with h3 | h3
    · exact (h.r1 k h3).2.1 e
    · have := ha2 k e; omega
  · by_cases e : j < n
    · simp only [if_pos e]
      rw [nAt_app (by rw [h.n1]; exact e), nAt_app (by rw [h.n2]; exact e), lAt_app (by rw [h.n3]; exact e)]
      exact (((h1.each j e).mod M1 (d1 j e)).below hbA).mod M2 (d2 j e)
    · obtain rfl : j = n := by omega
      simp only [if_neg e]
      rw [show nAt (B1 ++ [b]) j = b by rw [← h.n1]; exact nAt_end, show nAt (B2 ++ [w2.heap.size]) j = w2.heap.size by rw [← h.n2]; exact nAt_end, show lAt (Ls ++ [[]]) j = [] by rw [← h.n3]; exact lAt_end]
      exact ⟨F0, fun k => k = w2.heap.size, hW3, hR3, fun k hk e => by have := hFW k hk; omega, fun _ h => h, fun k hk => by
        rcases hk with hk | hk
        · have := hFW k hk; omega
        · omega⟩
  · by_cases e : j < n
    · by_cases e' : l < n
      · simp only [if_pos e] at h3
        simp only [if_pos e'] at h4
        exact h.apart j l k e e' h3 h4
      · simp only [if_pos e] at h3
        simp only [if_neg e'] at h4
        have h5 := hlt j e k h3
        rcases h4 with h4 | h4
        · have := hF0 k h4; omega
        · omega
    · by_cases e' : l < n
      · simp only [if_neg e] at h3
        simp only [if_pos e'] at h4
        have h5 := hlt l e' k h4
        rcases h3 with h3 | h3
        · have := hF0 k h3; omega
        · omega
      · omega
  · rcases N1 k hk with h3 | h3
    · exact (h.r1 k h3).1
    · have := h.bel.size; omega
  · rcases N1 k hk with h3 | h3
    · rcases N2 k e with h4 | h4
      · exact (h.r1 k h3).2.1 h4
      · have := ha1 k h3; omega
    · rcases N2 k e with h4 | h4
      · have := ha2 k h4; omega
      · have h5 := R1.lt k hk; omega
  · by_cases e : j < n
    · simp only [if_pos e]
      intro h4
      rcases N1 k hk with h3 | h3
      · exact d1 j e k h4 h3
      · have := hlt j e k h4; omega
    · simp only [if_neg e]
      intro h4
      have h5 := R1.lt k hk
      rcases h4 with h4 | h4
      · rcases N1 k hk with h3 | h3
        · have := ha1 k h3; have := hF0 k h4; omega
        · have := hFW k h4; omega
      · omega
  · rcases N2 k hk with h3 | h3
    · exact (h.r2 k h3).1
    · have := h.bel.size; omega
  · by_cases e : j < n
    · simp only [if_pos e]
      intro h4
      rcases N2 k hk with h3 | h3
      · exact d2 j e k h4 h3
      · have := hlt j e k h4; omega
    · simp only [if_neg e]
      intro h4
      rcases N2 k hk with h3 | h3
      · have h6 := ha2 k h3
        rcases h4 with h4 | h4
        · have := hF0 k h4; omega
        · omega
      · rcases h4 with h4 | h4
        · have := hFW k h4; omega
        · omega
  · by_cases e : j < n
    · simp only [if_pos e] at hk
      exact h.new j e k hk
    · simp only [if_neg e] at hk
      have := h.bel.size
      rcases hk with hk | hk
      · have := hF0 k hk; omega
      · omega
  · by_cases e : j < n
    · rw [lAt_app (by rw [h.n3]; exact e)]
      exact h.len j e
    · obtain rfl : j = n := by omega
      rw [show lAt (Ls ++ [[]]) j = [] by rw [← h.n3]; exact lAt_end]
      exact Nat.zero_le _
  · refine h1.bel.trans (Below.trans (M1.below h1.bel.size (fun k _ hk => (h.r1 k hk).1)) (Below.trans (hbA.mono (Nat.le_trans h1.bel.size s2)) (M2.below (by have := h1.bel.size; omega) (fun k _ hk => (h.r2 k hk).1))))
end
end Go.Proofs.Ytdpbkoohhnpjmaa
