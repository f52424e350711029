/- A row that is filled: one more place; three new blocks. -/
import Derived.Test.YtjbmljheepomnaaVQ1
namespace Go.Proofs.Ytjbmljheepomnaa
open Go.RowKit

theorem three_al (w : World) (o1 o2 o3 : Obj) : (((w.alloc o1).alloc o2).alloc o3).heap[w.heap.size]? = some o1 ∧ (((w.alloc o1).alloc o2).alloc o3).heap[w.heap.size + 1]? = some o2 ∧ (((w.alloc o1).alloc o2).alloc o3).heap[w.heap.size + 2]? = some o3 ∧ (((w.alloc o1).alloc o2).alloc o3).heap.size = w.heap.size + 3 ∧ Below w.heap.size w (((w.alloc o1).alloc o2).alloc o3) := by
  have s1 : (w.alloc o1).heap.size = w.heap.size + 1 := by simp
  have s2 : ((w.alloc o1).alloc o2).heap.size = w.heap.size + 2 := by simp
  have h1 := heap_alloc_new w o1
  have h2 := heap_alloc_new (w.alloc o1) o2
  have h3 := heap_alloc_new ((w.alloc o1).alloc o2) o3
  rw [s1] at h2
  rw [s2] at h3
  have b2 := below_al (w.alloc o1) o2
  have b3 := below_al ((w.alloc o1).alloc o2) o3
  exact ⟨((b3.block _ (by omega)).trans (b2.block _ (by omega))).trans h1, (b3.block _ (by omega)).trans h2, h3, by simp, ((below_al w o1).alloc (by omega) o2).alloc (by omega) o3⟩
theorem GI.put6 {W1 wr wb w2 : World} {P n i : Nat} {xs : List PtX} {v0 v1 v2 v3 v4 v5 : Value} (h : GI 43 6 pO zpL W1 P n xs i wr) (hi : i < n) (hb : Below wr.heap.size wr wb) (h2 : Below wb.heap.size wb w2) (hp : pO wb.heap.size w2.heap.size w2 [v0, v1, v2, v3, v4, v5] (xs.getD i default)) :
    GI 43 6 pO zpL W1 P n xs (i + 1) ((((((w2.setCell ⟨P, i * 6, none⟩ v0).setCell ⟨P, i * 6 + 1, none⟩ v1).setCell ⟨P, i * 6 + 2, none⟩ v2).setCell ⟨P, i * 6 + 3, none⟩ v3).setCell ⟨P, i * 6 + 4, none⟩ v4).setCell ⟨P, i * 6 + 5, none⟩ v5) ∧ ((∃ u, w2.cell? ⟨P, i * 6, none⟩ = some u) ∧ (∃ u, w2.cell? ⟨P, i * 6 + 1, none⟩ = some u) ∧ (∃ u, w2.cell? ⟨P, i * 6 + 2, none⟩ = some u) ∧ (∃ u, w2.cell? ⟨P, i * 6 + 3, none⟩ = some u) ∧ (∃ u, w2.cell? ⟨P, i * 6 + 4, none⟩ = some u) ∧ (∃ u, w2.cell? ⟨P, i * 6 + 5, none⟩ = some u)) ∧ ∀ j, w2.frozen? ⟨P, j, none⟩ = false := by
  have hlt := h.lt
  have hms := h.md.size
  have hbb := hb.trans (h2.mono hb.size)
  have hex : ∀ j, j < 6 → ∃ u, w2.cell? ⟨P, i * 6 + j, none⟩ = some u := fun j hj => by
    obtain ⟨⟨L, b, r1, -⟩, -, -⟩ := h
    obtain ⟨g, e, h1⟩ := (r1.below hbb).cell (i * 6 + j) (by omega)
    cases e
    rw [h1]
    exact ⟨_, List.getElem?_eq_getElem (by rw [r1.len]; omega)⟩
  have hfz : ∀ j, w2.frozen? ⟨P, j, none⟩ = false := fun j => by
    obtain ⟨⟨L, b, r1, -⟩, -, -⟩ := h
    exact (r1.below hbb).free j P rfl
  obtain ⟨f1, ⟨f2, f3, f4⟩, f5⟩ := fill6_other w2 P i v0 v1 v2 v3 v4 v5
  refine ⟨h.next (fun _ _ _ _ _ _ hk h => h.kept hk) (by rw [f1]; exact hbb.size) (fun k k1 k2 => by rw [f5 k k1]; exact hbb.block k k2) (by rw [f2]; exact hbb.os) (by rw [f3]; exact hbb.tape) (by rw [f4]; exact hbb.output) (fun L r1 _ => ?_), ⟨hex 0 (by decide), hex 1 (by decide), hex 2 (by decide), hex 3 (by decide), hex 4 (by decide), hex 5 (by decide)⟩, hfz⟩
  obtain ⟨L', q1, q2, q3⟩ := row_fill6 (r1.below hbb) hi v0 v1 v2 v3 v4 v5
  refine ⟨L', q1, q2, ?_⟩
  rw [q3, f1]
  exact (hp.kept (fun k k1 k2 => f5 k (by have := hb.size; omega))).low hb.size
theorem GI.put15 {W1 wr wb w2 : World} {P n i : Nat} {xs : List PrX} {v0 v1 v2 v3 v4 v5 v6 v7 v8 v9 v10 v11 v12 v13 v14 : Value} (h : GI 49 15 rO zrL W1 P n xs i wr) (hi : i < n) (hb : Below wr.heap.size wr wb) (h2 : Below wb.heap.size wb w2) (hp : rO wb.heap.size w2.heap.size w2 [v0, v1, v2, v3, v4, v5, v6, v7, v8, v9, v10, v11, v12, v13, v14] (xs.getD i default)) :
    GI 49 15 rO zrL W1 P n xs (i + 1) (((((((((((((((w2.setCell ⟨P, i * 15, none⟩ v0).setCell ⟨P, i * 15 + 1, none⟩ v1).setCell ⟨P, i * 15 + 2, none⟩ v2).setCell ⟨P, i * 15 + 3, none⟩ v3).setCell ⟨P, i * 15 + 4, none⟩ v4).setCell ⟨P, i * 15 + 5, none⟩ v5).setCell ⟨P, i * 15 + 6, none⟩ v6).setCell ⟨P, i * 15 + 7, none⟩ v7).setCell ⟨P, i * 15 + 8, none⟩ v8).setCell ⟨P, i * 15 + 9, none⟩ v9).setCell ⟨P, i * 15 + 10, none⟩ v10).setCell ⟨P, i * 15 + 11, none⟩ v11).setCell ⟨P, i * 15 + 12, none⟩ v12).setCell ⟨P, i * 15 + 13, none⟩ v13).setCell ⟨P, i * 15 + 14, none⟩ v14) ∧ ((∃ u, w2.cell? ⟨P, i * 15, none⟩ = some u) ∧ (∃ u, w2.cell? ⟨P, i * 15 + 1, none⟩ = some u) ∧ (∃ u, w2.cell? ⟨P, i * 15 + 2, none⟩ = some u) ∧ (∃ u, w2.cell? ⟨P, i * 15 + 3, none⟩ = some u) ∧ (∃ u, w2.cell? ⟨P, i * 15 + 4, none⟩ = some u) ∧ (∃ u, w2.cell? ⟨P, i * 15 + 5, none⟩ = some u) ∧ (∃ u, w2.cell? ⟨P, i * 15 + 6, none⟩ = some u) ∧ (∃ u, w2.cell? ⟨P, i * 15 + 7, none⟩ = some u) ∧ (∃ u, w2.cell? ⟨P, i * 15 + 8, none⟩ = some u) ∧ (∃ u, w2.cell? ⟨P, i * 15 + 9, none⟩ = some u) ∧ (∃ u, w2.cell? ⟨P, i * 15 + 10, none⟩ = some u) ∧ (∃ u, w2.cell? ⟨P, i * 15 + 11, none⟩ = some u) ∧ (∃ u, w2.cell? ⟨P, i * 15 + 12, none⟩ = some u) ∧ (∃ u, w2.cell? ⟨P, i * 15 + 13, none⟩ = some u) ∧ (∃ u, w2.cell? ⟨P, i * 15 + 14, none⟩ = some u)) ∧ ∀ j, w2.frozen? ⟨P, j, none⟩ = false := by
  have hlt := h.lt
  have hms := h.md.size
  have hbb := hb.trans (h2.mono hb.size)
  have hex : ∀ j, j < 15 → ∃ u, w2.cell? ⟨P, i * 15 + j, none⟩ = some u := fun j hj => by
    obtain ⟨⟨L, b, r1, -⟩, -, -⟩ := h
    obtain ⟨g, e, h1⟩ := (r1.below hbb).cell (i * 15 + j) (by omega)
    cases e
    rw [h1]
    exact ⟨_, List.getElem?_eq_getElem (by rw [r1.len]; omega)⟩
  have hfz : ∀ j, w2.frozen? ⟨P, j, none⟩ = false := fun j => by
    obtain ⟨⟨L, b, r1, -⟩, -, -⟩ := h
    exact (r1.below hbb).free j P rfl
  obtain ⟨f1, ⟨f2, f3, f4⟩, f5⟩ := fill15_other w2 P i v0 v1 v2 v3 v4 v5 v6 v7 v8 v9 v10 v11 v12 v13 v14
  refine ⟨h.next (fun _ _ _ _ _ _ hk h => h.kept hk) (by rw [f1]; exact hbb.size) (fun k k1 k2 => by rw [f5 k k1]; exact hbb.block k k2) (by rw [f2]; exact hbb.os) (by rw [f3]; exact hbb.tape) (by rw [f4]; exact hbb.output) (fun L r1 _ => ?_), ⟨hex 0 (by decide), hex 1 (by decide), hex 2 (by decide), hex 3 (by decide), hex 4 (by decide), hex 5 (by decide), hex 6 (by decide), hex 7 (by decide), hex 8 (by decide), hex 9 (by decide), hex 10 (by decide), hex 11 (by decide), hex 12 (by decide), hex 13 (by decide), hex 14 (by decide)⟩, hfz⟩
  obtain ⟨L', q1, q2, q3⟩ := row_fill15 (r1.below hbb) hi v0 v1 v2 v3 v4 v5 v6 v7 v8 v9 v10 v11 v12 v13 v14
  refine ⟨L', q1, q2, ?_⟩
  rw [q3, f1]
  exact (hp.kept (fun k k1 k2 => f5 k (by have := hb.size; omega))).low hb.size
end Go.Proofs.Ytjbmljheepomnaa
