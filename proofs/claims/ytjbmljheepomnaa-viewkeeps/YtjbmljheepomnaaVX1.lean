/- The document's example. -/
import Derived.Test.YtjbmljheepomnaaVQ3
import Derived.Test.YtjbmljheepomnaaVSs
import Derived.Test.YtjbmljheepomnaaVD1
namespace Go.Proofs.Ytjbmljheepomnaa
open Go.RowKit

def exC : CfX := ⟨[0, 1, 2, 3], [0, 1, 2, 3]⟩
def exP (j : Int) : PtX := ⟨0, [], 10 + j, 0, [], []⟩
def exQ (j : Int) : PrX := ⟨0, 20 + j, rg0, 0, 0, false, 0, []⟩
def exS : StX := ⟨7, [exP 0, exP 1, exP 2, exP 3], [exQ 0, exQ 1, exQ 2, exQ 3]⟩
def exPL (j : Nat) : List Value := [.int .i64 0, .slice none 0 0, .int .i64 (10 + (j : Int)), .int .i64 0, .slice none 0 0, .slice none 0 0]
def exQL (j : Nat) : List Value := [.int .i64 0, .int .i64 (20 + (j : Int)), .int .i64 0, .int .i64 0, .int .i64 0, .int .i64 0, .int .i64 0, .int .i64 0, .int .i64 0, .int .i64 0, .int .i64 0, .int .i64 0, .bool false, .int .i64 0, .slice none 0 0]
/-- The example's state is being laid. -/
structure XI (W2 : World) (P Q i : Nat) (wr : World) : Prop where
  rp : ∃ L, Row wr 43 6 (some ⟨P, 0, none⟩) 4 4 L ∧ (∀ j, j < i → j < 4 → el 6 L j = exPL j) ∧ ∀ j, i ≤ j → j < 4 → el 6 L j = zpL
  rq : ∃ L, Row wr 49 15 (some ⟨Q, 0, none⟩) 4 4 L ∧ (∀ j, j < i → j < 4 → el 15 L j = exQL j) ∧ ∀ j, i ≤ j → j < 4 → el 15 L j = zrL
  md : Mod (fun k => k = P ∨ k = Q) W2 wr
  ne : P ≠ Q
theorem XI.step {W2 wr : World} {P Q i : Nat} (h : XI W2 P Q i wr) (hi : i < 4) : XI W2 P Q (i + 1) ((wr.setCell ⟨P, i * 6 + 2, none⟩ (.int .i64 (10 + (i : Int)))).setCell ⟨Q, i * 15 + 1, none⟩ (.int .i64 (20 + (i : Int)))) ∧ (∃ u, wr.cell? ⟨P, i * 6 + 2, none⟩ = some u) ∧ (∃ u, wr.cell? ⟨Q, i * 15 + 1, none⟩ = some u) ∧ (∀ j, wr.frozen? ⟨P, j, none⟩ = false) ∧ ∀ j, wr.frozen? ⟨Q, j, none⟩ = false := by
  obtain ⟨⟨L, r1, r2, r3⟩, ⟨M, t1, t2, t3⟩, hm, hn⟩ := h
  obtain ⟨g, e, q1, q2, q3⟩ := row_put r1 (i * 6 + 2) (by omega) (.int .i64 (10 + (i : Int)))
  cases e
  obtain ⟨g', e', p1, p2, p3⟩ := row_put t1 (i * 15 + 1) (by omega) (.int .i64 (20 + (i : Int)))
  cases e'
  have q4 : Row ((wr.setCell ⟨P, i * 6 + 2, none⟩ (.int .i64 (10 + (i : Int)))).setCell ⟨Q, i * 15 + 1, none⟩ (.int .i64 (20 + (i : Int)))) _ _ _ _ _ _ := q1.kept (w' := (wr.setCell ⟨P, i * 6 + 2, none⟩ (.int .i64 (10 + (i : Int)))).setCell ⟨Q, i * 15 + 1, none⟩ (.int .i64 (20 + (i : Int)))) (fun k hk => setCell_other _ _ _ _ _ (by have e0 : P = k := Option.some.inj hk; omega))
  have t4 := t1.kept (w' := wr.setCell ⟨P, i * 6 + 2, none⟩ (.int .i64 (10 + (i : Int)))) (fun k hk => setCell_other _ _ _ _ _ (by have e0 : Q = k := Option.some.inj hk; omega))
  obtain ⟨g'', e'', p4, -, -⟩ := row_put t4 (i * 15 + 1) (by omega) (.int .i64 (20 + (i : Int)))
  cases e''
  refine ⟨⟨⟨_, q4, fun j h1 h2 => ?_, fun j h1 h2 => ?_⟩, ⟨_, p4, fun j h1 h2 => ?_, fun j h1 h2 => ?_⟩, ?_, hn⟩, q2, p2, fun j => r1.free j P rfl, fun j => t1.free j Q rfl⟩
  · rw [el_set (by decide)]
    by_cases e : j = i
    · subst e
      rw [if_pos rfl, r3 j (Nat.le_refl _) hi]
      rfl
    · rw [if_neg e]; exact r2 j (by omega) h2
  · rw [el_set (by decide), if_neg (by omega)]; exact r3 j (by omega) h2
  · rw [el_set (by decide)]
    by_cases e : j = i
    · subst e
      rw [if_pos rfl, t3 j (Nat.le_refl _) hi]
      rfl
    · rw [if_neg e]; exact t2 j (by omega) h2
  · rw [el_set (by decide), if_neg (by omega)]; exact t3 j (by omega) h2
  · exact Mod.setCell (p := ⟨Q, i * 15 + 1, none⟩) (Mod.setCell (p := ⟨P, i * 6 + 2, none⟩) hm (.inl (.inl rfl)) _) (.inl (.inr rfl)) _
theorem exP_at (j : Nat) (h : j < 4) : exS.ps.getD j default = exP j := by
  have h : j = 0 ∨ j = 1 ∨ j = 2 ∨ j = 3 := by omega
  rcases h with rfl | rfl | rfl | rfl <;> rfl
theorem exQ_at (j : Nat) (h : j < 4) : exS.qs.getD j default = exQ j := by
  have h : j = 0 ∨ j = 1 ∨ j = 2 ∨ j = 3 := by omega
  rcases h with rfl | rfl | rfl | rfl <;> rfl
theorem XI.done {W2 wr : World} {P Q : Nat} (h : XI W2 P Q 4 wr) : sE wr [.int .i64 7, .slice (some ⟨P, 0, none⟩) 4 4, .slice (some ⟨Q, 0, none⟩) 4 4] exS := by
  obtain ⟨⟨L, r1, r2, -⟩, ⟨M, t1, t2, -⟩, -, -⟩ := h
  refine ⟨_, _, rfl, DeR.of_row (xs := exS.ps) r1 (by decide) fun j hj => ?_, DeR.of_row (xs := exS.qs) t1 (by decide) fun j hj => ?_⟩
  · have hj4 : j < 4 := hj
    rw [r2 j hj4 hj4, exP_at j hj4]
    exact ⟨_, _, _, rfl, DeR.nil, DeR.nil, DeR.nil⟩
  · have hj4 : j < 4 := hj
    rw [t2 j hj4 hj4, exQ_at j hj4]
    exact ⟨_, rfl, DeR.nil⟩
theorem exC_at {W : World} {B B1 : Nat} {v1 v2 v3 v4 v5 : Value} (h1 : W.heap[B]? = some (.cells #[.int .u64 0, .int .u64 1, .int .u64 2, .int .u64 3] 31)) (h2 : W.heap[B1]? = some (.cells #[.int .i64 0, .slice none 0 0, .int .i64 1, .slice none 0 0, .int .i64 2, .slice none 0 0, .int .i64 3, .slice none 0 0] 59)) : fE W [.slice (some ⟨B, 0, none⟩) 4 4, v1, v2, v3, v4, v5, .slice (some ⟨B1, 0, none⟩) 4 4] exC := by
  refine ⟨_, _, _, _, _, _, _, rfl, DeR.of_row (xs := exC.lb) (row_new (n := 4) h1 rfl (by unfold maxLen; omega)) (by decide) fun j hj => ?_, DeR.of_row (xs := exC.pp) (row_new (n := 4) h2 rfl (by unfold maxLen; omega)) (by decide) fun j hj => ?_⟩
  · have hj4 : j < 4 := hj
    have h : j = 0 ∨ j = 1 ∨ j = 2 ∨ j = 3 := by omega
    rcases h with rfl | rfl | rfl | rfl <;> exact ⟨rfl, by decide⟩
  · have hj4 : j < 4 := hj
    have h : j = 0 ∨ j = 1 ∨ j = 2 ∨ j = 3 := by omega
    rcases h with rfl | rfl | rfl | rfl <;> exact ⟨_, rfl⟩
theorem ex_see : seesP exC 2 0 = true ∧ seesP exC 2 1 = false ∧ seesP exC 2 2 = true ∧ seesP exC 2 3 = false ∧ seesQ exC 2 0 = true ∧ seesQ exC 2 1 = false ∧ seesQ exC 2 2 = true ∧ seesQ exC 2 3 = false ∧ seesQ exC 3 1 = true := by decide +kernel
theorem exT_eq : ofX exC 2 exS = ⟨7, [exP 0, pt0, exP 2, pt0], [exQ 0, pr0, exQ 2, pr0]⟩ := by
  obtain ⟨h0, h1, h2, h3, h4, h5, h6, h7, -⟩ := ex_see
  have c0 : ((0 : Nat) : Int) = 0 := rfl
  have c1 : ((0 + 1 : Nat) : Int) = 1 := rfl
  have c2 : ((0 + 1 + 1 : Nat) : Int) = 2 := rfl
  have c3 : ((0 + 1 + 1 + 1 : Nat) : Int) = 3 := rfl
  simp only [ofX, exS, cutL, c0, c1, c2, c3, h0, h1, h2, h3, h4, h5, h6, h7, if_true, Bool.false_eq_true, if_false]
theorem exT_ne : ¬ exS = ofX exC 2 exS := by
  rw [exT_eq]
  intro h
  have := congrArg (fun s : StX => (s.ps.getD 1 pt0).lo) h
  simp [exS, exP, pt0] at this
end Go.Proofs.Ytjbmljheepomnaa
