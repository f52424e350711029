/- A list of questions that came in, as the walk asks it. -/
import Derived.Test.YtcececjnndhalaaLBase
import Derived.Test.YtcececjnndhalaaW16
import Derived.Deep.Strs
namespace Go.Proofs.Ytcececjnndhalaa
open Go.ChangeShapes Go.WideShapes Go.ChangeAt Go.RowKit

theorem cells31 : Try.prog.cellsOf 31 = 3 := by kernel_rfl
theorem cells2 : Try.prog.cellsOf 2 = 1 := by kernel_rfl

theorem view_asks {H : Type} {enc : TypeId × Value → H} {W : World} {a : Option Addr} {len cap : Nat} {d : DataW H} {p : List MemPlace} (h : DataW.Trod enc Try.prog W 0 (fun _ => true) true 23 (.slice a len cap) d p) :
    ∃ q : List (Int × Int × Int), q.length = len ∧ len ≤ 9223372036854775807 ∧ Asks W a q ∧ ∀ x ∈ q, x.2.1 < 9223372036854775808 ∧ x.2.2 < 9223372036854775808 := by
  obtain ⟨fuel, hf⟩ := h
  rcases DataW.trod_slice Try.underlying23 hf with ⟨hcs, hx⟩ | ⟨a', len', cap', elems, rest, n, _, hcs, hx, hb, hl, hm, hlen, hel, _, _⟩
  · simp [Value.cells] at hcs
    obtain ⟨rfl, rfl, rfl⟩ := hcs
    exact ⟨[], rfl, by omega, fun i x hx => by simp at hx, fun x hx => by simp at hx⟩
  · simp [Value.cells] at hcs
    obtain ⟨rfl, rfl, rfl⟩ := hcs
    have each : ∀ i, i < len → ∃ x : Int × Int × Int, W.cell? ((a'.add (i * 3)).add 0) = some (.int .i64 x.1) ∧ W.cell? ((a'.add (i * 3)).add 1) = some (.int .i64 x.2.1) ∧ W.cell? ((a'.add (i * 3)).add 2) = some (.int .i64 x.2.2) ∧ x.2.1 < 9223372036854775808 ∧ x.2.2 < 9223372036854775808 := by
      intro i hi
      have h1 := hel i hi
      have h2 : ∃ y, elems[i]? = some y := ⟨_, List.getElem?_eq_getElem (by omega)⟩
      obtain ⟨y, hy⟩ := h2
      rw [hy, cells31, Option.bind_eq_some_iff] at h1
      obtain ⟨cs, hc, ht⟩ := h1
      obtain ⟨y0, y1, y2, m, _, hcl, t0, t1, t2⟩ := Go.Deep.trod_struct3 Try.underlying31 ht
      rw [cells31] at hcl
      simp only [cells3, cells2] at t0 t1 t2
      match cs, hcl with
      | [c0, c1, c2], _ =>
        obtain ⟨n0, e0, _, w0⟩ := DataW.trod_int Try.underlying3 t0
        obtain ⟨n1, e1, _, w1⟩ := DataW.trod_int Try.underlying2 t1
        obtain ⟨n2, e2, _, w2⟩ := DataW.trod_int Try.underlying2 t2
        simp at e0 e1 e2
        subst e0 e1 e2
        have hcell := (World.cells?_some hc).2.2
        have b1 := bounds_i64 w1
        have b2 := bounds_i64 w2
        exact ⟨(n0, n1, n2), by simpa using hcell 0 (by omega), by simpa using hcell 1 (by omega), by simpa using hcell 2 (by omega), by simp only; omega, by simp only; omega⟩
    have all : ∀ k, k ≤ len → ∃ q : List (Int × Int × Int), q.length = k ∧ ∀ i x, q[i]? = some x → W.cell? ((a'.add (i * 3)).add 0) = some (.int .i64 x.1) ∧ W.cell? ((a'.add (i * 3)).add 1) = some (.int .i64 x.2.1) ∧ W.cell? ((a'.add (i * 3)).add 2) = some (.int .i64 x.2.2) ∧ x.2.1 < 9223372036854775808 ∧ x.2.2 < 9223372036854775808 := by
      intro k
      induction k with
      | zero => intro _; exact ⟨[], rfl, fun i x hx => by simp at hx⟩
      | succ k ih =>
        intro hk
        obtain ⟨q, hq, hall⟩ := ih (by omega)
        obtain ⟨x, hx⟩ := each k (by omega)
        refine ⟨q ++ [x], by simp [hq], fun i y hy => ?_⟩
        by_cases hi : i < q.length
        · rw [List.getElem?_append_left hi] at hy
          exact hall i y hy
        · rw [List.getElem?_append_right (by omega)] at hy
          have hi0 : i - q.length = 0 := by
            rcases Nat.eq_zero_or_pos (i - q.length) with h | h
            · exact h
            · rw [List.getElem?_eq_none (by simp; omega)] at hy; cases hy
          rw [hi0] at hy
          simp at hy
          subst hy
          rw [show i = k by omega]
          exact hx
    obtain ⟨q, hq, hall⟩ := all len (Nat.le_refl _)
    refine ⟨q, hq, by unfold maxLen at hm; omega, fun i x hix => ?_, fun x hx => ?_⟩
    · obtain ⟨g0, g1, g2, _, _⟩ := hall i x hix
      obtain ⟨b, off, spot⟩ := a'
      have hne : 0 < q.length := by
        rcases Nat.eq_zero_or_pos q.length with h | h
        · rw [List.eq_nil_of_length_eq_zero h] at hix; simp at hix
        · exact h
      have hspot : spot = none := by simpa [Addr.add] using World.cell?_spot (hall 0 _ (List.getElem?_eq_getElem hne)).1
      subst hspot
      refine ⟨b, off, rfl, ?_, ?_, ?_⟩
      · rw [addr_add, addr_add] at g0; exact g0
      · rw [addr_add, addr_add] at g1; exact g1
      · rw [addr_add, addr_add] at g2; exact g2
    · obtain ⟨i, hi⟩ := List.getElem?_of_mem hx
      obtain ⟨_, _, _, g1, g2⟩ := hall i x hi
      exact ⟨g1, g2⟩
end Go.Proofs.Ytcececjnndhalaa
