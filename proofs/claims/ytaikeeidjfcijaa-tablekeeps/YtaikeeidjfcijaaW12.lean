/- Labels in memory of their own, with room behind them, in which marks stand. -/
import Derived.Test.YtaikeeidjfcijaaW11
namespace Go.Proofs.Ytaikeeidjfcijaa
open Go.RowKit Go.Maps

theorem cells_any {w w' : World} {a : Option Addr} {vs : List Value} (h : Cells w a vs) (hb : Below w.heap.size w w') : ∀ ad, a = some ad → ∀ j u, vs[j]? = some u → w'.cell? (ad.add j) = some u := by
  intro ad e
  subst e
  exact cells_src h hb

theorem cells_none {w : World} {l : List Nat} (h : Cells w none (labCells l)) : l.length = 0 := by
  cases l with
  | nil => rfl
  | cons x r => obtain ⟨b, off, h, _⟩ := h (lab_ne _ 0 (by simp)); cases h

set_option maxRecDepth 100000 in
set_option maxHeartbeats 1000000 in
theorem wide_any (a : Option Addr) (cap : Nat) (l : List Nat) (w : World) (hC : Cells w a (labCells l)) (hA : a = none → cap = 0) (hlen : l.length ≤ 2000000) :
    Calls Try.prog 16 #[.slice a l.length cap] w fun e w' => ∃ g cp, e = .returned (.slice (some ⟨g, 0, none⟩) l.length cp) ∧ w'.ownsRow w.heap.size 35 1 (.slice (some ⟨g, 0, none⟩) (l.length + 3) cp) (l.length + 3) (labCells (l ++ [161, 162, 163])) ∧ Below w.heap.size w w' := by
  obtain ⟨i0, hi, hz0, hz1, hz2⟩ := info_parts info35
  have hll := labCells_len l
  have hnn : a = none → l.length = 0 ∧ cap = 0 := fun e => ⟨by subst e; exact cells_none hC, hA e⟩
  have hb8 : i0.bytes * (l.length + 3) ≤ 281474976710656 := by rw [hz2]; omega
  go_enter Try.func16, Try.ntmps16
  go_wp2_with (first
    | (at_make; refine wpList_make_own _ rfl _ _ 23 rfl w.heap.size 35 i0 (.int .u64 0) 1 Try.underlying23 hi hz0 hz1 .i64 .i64 _ (l.length + 3) rfl rfl (by omega) hb8 (by unfold maxLen; omega) (Nat.le_refl _) ?_; intro w1 hown1 hg1; have hB1 : Below w.heap.size w w1 := (Below.refl _ w).grown hg1 (Nat.le_refl _) (fun k hk => by cases hk))
    | (at_builtin; refine wpList_append_fits_any _ rfl (.tmp 7) (.tmp 8) 23 rfl w.heap.size 35 i0 1 Try.underlying23 hi hz1 w.heap.size 0 (l.length + 3) [] rfl hown1 a l.length cap (labCells l) rfl (by omega) hnn (cells_any hC hB1) (lab_one l) (by omega) ?_; intro w2 hown2 hg2; have hB2 : Below w.heap.size w w2 := hB1.grown hg2 hB1.size (fun k hk => by cases hk; exact Nat.le_refl _); simp only [Nat.zero_add, List.nil_append] at hown2 ⊢)
    | (at_builtin; refine wpList_append_fits _ rfl (.tmp 10) (.tmp 11) 23 rfl w.heap.size 35 i0 1 Try.underlying23 hi hz1 w.heap.size l.length (l.length + 3) (labCells l) rfl (hown2.alloc _) ⟨w2.heap.size, 0, none⟩ 3 3 (labCells [161, 162, 163]) rfl rfl (cells_src (cells_new w2 _ _) (Below.refl _ _)) (lab_one _) (by omega) ?_; intro w3 hown3 hg3)
    | go_in)
  go_wp2
  go_ret
  refine ⟨_, _, rfl, ?_, ?_⟩
  · rw [labCells, List.map_append]
    exact hown3
  · exact (hB2.alloc hB2.size _).grown hg3 (by have := hB2.size; simp; omega) (fun k hk => by cases hk; exact Nat.le_refl _)
end Go.Proofs.Ytaikeeidjfcijaa
