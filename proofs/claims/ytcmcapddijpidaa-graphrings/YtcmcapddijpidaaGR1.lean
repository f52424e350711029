/- The document's sort: lists, and what its merging keeps. -/
import Derived.Test.YtcmcapddijpidaaGW8
namespace Go.Proofs.Ytcmcapddijpidaa
open Go.RowKit Go.Maps

theorem copy_app {w : World} {a : Option Addr} {n c : Nat} {l : List Int} (hR : Rd w a (iC l)) (hn : l.length = n) (h8 : n ≤ 1000000000) :
    ∃ a' c' w', (∀ ty, (Builtin.append_ #[25, 25] ty #[.slice (some ⟨w.heap.size, 0, none⟩) 0 0, .slice a n c]).run Try.prog (w.alloc (.cells #[] 3)) = .ok (.slice a' n c') w') ∧ Own w w' a' c' l := by
  obtain ⟨i, k1, k2, k3, k4⟩ := info_parts infoN
  have hb := below_al w (.cells #[] 3)
  have hrow : Row (w.alloc (.cells #[] 3)) 3 1 (some ⟨w.heap.size, 0, none⟩) 0 0 [] := row_new (cs := #[]) (heap_alloc_new w _) rfl (Nat.zero_le _)
  have hs : Src Try.prog 1 25 (.slice a n c) n (iC l) (w.alloc (.cells #[] 3)) := (hR.below hb).src Try.underlying25 (by rw [iC_len, hn]) (by decide) (iC_one l)
  obtain ⟨a', c', w', m1, m2, m3, m4, _⟩ := run_append_row (P := Try.prog) _ 25 3 i _ 1 8 Try.underlying25 k1 k2 k3 k4 rfl hrow _ n _ hs (by unfold maxLen; omega) (by omega)
  rw [Nat.zero_add] at m1 m2
  refine ⟨a', c', w', m1, hb.trans ?_, by rw [hn]; exact m2, fun k hk => ?_⟩
  · exact m3.below hb.size (fun k _ hk => by cases hk; exact Nat.le_refl _)
  · rcases m4 k hk with h | h
    · cases h; exact Nat.le_refl _
    · have := hb.size; omega
theorem Own.empty {w : World} : Own w (w.alloc (.cells #[] 3)) (some ⟨w.heap.size, 0, none⟩) 0 [] :=
  ⟨below_al w _, row_new (cs := #[]) (heap_alloc_new w _) rfl (Nat.zero_le _), fun k hk => by cases hk; exact Nat.le_refl _⟩
abbrev Rises (l : List Int) : Prop := l.Pairwise (· ≤ ·)
structure Mg (l out a b : List Int) : Prop where
  ro : Rises out
  ra : Rises a
  rb : Rises b
  low : ∀ x ∈ out, ∀ y ∈ a ++ b, x ≤ y
  perm : (out ++ (a ++ b)).Perm l
section
variable {l out a b : List Int} {x y : Int}
theorem rises_snoc (h : Rises out) (hx : ∀ z ∈ out, z ≤ x) : Rises (out ++ [x]) := by
  unfold Rises
  rw [List.pairwise_append]
  exact ⟨h, by simp, fun z hz t ht => by simp at ht; subst ht; exact hx z hz⟩
theorem Mg.left (h : Mg l out (x :: a) b) (hb : ∀ y ∈ b, x ≤ y) : Mg l (out ++ [x]) a b := by
  have ha := List.pairwise_cons.1 h.ra
  refine ⟨rises_snoc h.ro (fun z hz => h.low z hz x (by simp)), ha.2, h.rb, fun z hz t ht => ?_, ?_⟩
  · rcases List.mem_append.1 hz with hz | hz
    · exact h.low z hz t (by simpa using Or.inr (List.mem_append.1 ht))
    · simp at hz; subst hz
      rcases List.mem_append.1 ht with ht | ht
      · exact ha.1 t ht
      · exact hb t ht
  · have := h.perm
    simpa using this
theorem Mg.right (h : Mg l out a (y :: b)) (ha : ∀ x ∈ a, y ≤ x) : Mg l (out ++ [y]) a b := by
  have hb := List.pairwise_cons.1 h.rb
  refine ⟨rises_snoc h.ro (fun z hz => h.low z hz y (by simp)), h.ra, hb.2, fun z hz t ht => ?_, ?_⟩
  · rcases List.mem_append.1 hz with hz | hz
    · exact h.low z hz t (by rcases List.mem_append.1 ht with h | h <;> simp [h])
    · simp at hz; subst hz
      rcases List.mem_append.1 ht with ht | ht
      · exact ha t ht
      · exact hb.1 t ht
  · refine List.Perm.trans ?_ h.perm
    rw [List.append_assoc]
    exact List.Perm.append_left out (by simpa using (List.perm_middle (a := y) (l₁ := a) (l₂ := b)).symm)
theorem Mg.le_b (h : Mg l out a (y :: b)) (hx : x ≤ y) : ∀ z ∈ y :: b, x ≤ z := fun z hz => by
  rcases List.mem_cons.1 hz with e | e
  · omega
  · have := (List.pairwise_cons.1 h.rb).1 z e; omega
theorem Mg.le_a (h : Mg l out (x :: a) b) (hx : y ≤ x) : ∀ z ∈ x :: a, y ≤ z := fun z hz => by
  rcases List.mem_cons.1 hz with e | e
  · omega
  · have := (List.pairwise_cons.1 h.ra).1 z e; omega
theorem Mg.end (h : Mg l out [] []) : Rises out ∧ out.Perm l := ⟨h.ro, by simpa using h.perm⟩
theorem Mg.start (ha : Rises a) (hb : Rises b) (hp : (a ++ b).Perm l) : Mg l [] a b := ⟨List.Pairwise.nil, ha, hb, (fun x hx => by cases hx), by simpa using hp⟩
end
/-- What the document's sorted answers. -/
def SrOut (w : World) (l : List Int) (x : Ending) (w' : World) : Prop := ∃ l' a c, x = .returned (.slice a l'.length c) ∧ l'.length ≤ c ∧ Rises l' ∧ l'.Perm l ∧ Rd w' a (iC l') ∧ Below w.heap.size w w'
theorem Rd.rest {w : World} {g o : Nat} {x : Int} {l : List Int} (h : Rd w (some ⟨g, o, none⟩) (iC (x :: l))) : Rd w (some ⟨g, o + 1, none⟩) (iC l) := fun j u hj => by
  obtain ⟨b, o', e, hc⟩ := h (j + 1) u (by simpa [iC] using hj)
  cases e
  exact ⟨g, o + 1, rfl, by rw [show o + 1 + j = o + (j + 1) by omega]; exact hc⟩
theorem Rd.head {w : World} {a : Option Addr} {x : Int} {l : List Int} (h : Rd w a (iC (x :: l))) : ∃ g o, a = some ⟨g, o, none⟩ ∧ w.cell? ⟨g, o, none⟩ = some (.int .i64 x) := by
  obtain ⟨b, o, e, hc⟩ := h 0 (.int .i64 x) rfl
  exact ⟨b, o, e, hc⟩
theorem Rd.zero {w : World} {a : Option Addr} : Rd w a (iC []) := fun j u hj => by cases hj
theorem Rd.takeI {w : World} {a : Option Addr} {l : List Int} (h : Rd w a (iC l)) (k : Nat) : Rd w a (iC (l.take k)) := fun j u hj => by
  rw [← iC_take, List.getElem?_take] at hj
  split at hj
  · exact h j u hj
  · cases hj
theorem Rd.dropI {w : World} {g o : Nat} {l : List Int} (h : Rd w (some ⟨g, o, none⟩) (iC l)) (k : Nat) : Rd w (some ⟨g, o + k, none⟩) (iC (l.drop k)) := fun j u hj => by
  rw [← iC_drop, List.getElem?_drop] at hj
  obtain ⟨b, o', e, hc⟩ := h (k + j) u hj
  cases e
  exact ⟨g, o + k, rfl, by rw [show o + k + j = o + (k + j) by omega]; exact hc⟩
end Go.Proofs.Ytcmcapddijpidaa
