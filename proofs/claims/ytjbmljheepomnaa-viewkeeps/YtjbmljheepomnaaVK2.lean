/- A lane's place is written. -/
import Derived.Test.YtjbmljheepomnaaVK1
namespace Go.Proofs.Ytjbmljheepomnaa
open Go.RowKit

theorem row_fill4 {w : World} {T : TypeId} {n cap g i : Nat} {L : List Value} (h : Row w T 4 (some ⟨g, 0, none⟩) n cap L) (hi : i < n) (v0 v1 v2 v3 : Value) : ∃ L', Row ((((w.setCell ⟨g, i * 4, none⟩ v0).setCell ⟨g, i * 4 + 1, none⟩ v1).setCell ⟨g, i * 4 + 2, none⟩ v2).setCell ⟨g, i * 4 + 3, none⟩ v3) T 4 (some ⟨g, 0, none⟩) n cap L' ∧ ∀ j, j ≠ i → el 4 L' j = el 4 L j := by
  obtain ⟨g0, e0, h0, -, -⟩ := row_put h (i * 4) (by omega) v0
  cases e0
  obtain ⟨g1, e1, h1, -, -⟩ := row_put h0 (i * 4 + 1) (by omega) v1
  cases e1
  obtain ⟨g2, e2, h2, -, -⟩ := row_put h1 (i * 4 + 2) (by omega) v2
  cases e2
  obtain ⟨g3, e3, h3, -, -⟩ := row_put h2 (i * 4 + 3) (by omega) v3
  cases e3
  refine ⟨_, h3, fun j hj => ?_⟩
  rw [el_set (sz := 4) (r := 3) (by decide), if_neg hj]; rw [el_set (sz := 4) (r := 2) (by decide), if_neg hj]; rw [el_set (sz := 4) (r := 1) (by decide), if_neg hj]
  have := el_set (sz := 4) (L := L) (i := i) (j := j) (r := 0) (v := v0) (by decide)
  rw [Nat.add_zero] at this
  rw [this, if_neg hj]
theorem fill4_other (w : World) (g i : Nat) (v0 v1 v2 v3 : Value) : ((((w.setCell ⟨g, i * 4, none⟩ v0).setCell ⟨g, i * 4 + 1, none⟩ v1).setCell ⟨g, i * 4 + 2, none⟩ v2).setCell ⟨g, i * 4 + 3, none⟩ v3).heap.size = w.heap.size ∧ (((((w.setCell ⟨g, i * 4, none⟩ v0).setCell ⟨g, i * 4 + 1, none⟩ v1).setCell ⟨g, i * 4 + 2, none⟩ v2).setCell ⟨g, i * 4 + 3, none⟩ v3).os = w.os ∧ ((((w.setCell ⟨g, i * 4, none⟩ v0).setCell ⟨g, i * 4 + 1, none⟩ v1).setCell ⟨g, i * 4 + 2, none⟩ v2).setCell ⟨g, i * 4 + 3, none⟩ v3).tape = w.tape ∧ ((((w.setCell ⟨g, i * 4, none⟩ v0).setCell ⟨g, i * 4 + 1, none⟩ v1).setCell ⟨g, i * 4 + 2, none⟩ v2).setCell ⟨g, i * 4 + 3, none⟩ v3).output = w.output) ∧ ∀ k, k ≠ g → ((((w.setCell ⟨g, i * 4, none⟩ v0).setCell ⟨g, i * 4 + 1, none⟩ v1).setCell ⟨g, i * 4 + 2, none⟩ v2).setCell ⟨g, i * 4 + 3, none⟩ v3).heap[k]? = w.heap[k]? := by
  have hb : Below 0 w ((((w.setCell ⟨g, i * 4, none⟩ v0).setCell ⟨g, i * 4 + 1, none⟩ v1).setCell ⟨g, i * 4 + 2, none⟩ v2).setCell ⟨g, i * 4 + 3, none⟩ v3) := (below_set (below_set (below_set (below_set (Below.refl 0 w) (Nat.zero_le _)) (Nat.zero_le _)) (Nat.zero_le _)) (Nat.zero_le _))
  exact ⟨by simp only [setCell_size], ⟨hb.os, hb.tape, hb.output⟩, fun k hk => by simp only [setCell_other _ _ _ _ _ hk]⟩
end Go.Proofs.Ytjbmljheepomnaa
