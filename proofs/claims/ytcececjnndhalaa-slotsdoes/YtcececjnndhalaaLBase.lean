/- What the rows with a list among their arguments need: a list that came in, as the walks ask it. -/
import Derived.Test.YtcececjnndhalaaRows
import Derived.Test.YtcececjnndhalaaW11
import Derived.ProofKit
import Derived.OpenShut
import Derived.SizedLaws
namespace Go.Proofs.Ytcececjnndhalaa
open Go.ChangeShapes Go.WideShapes Go.ChangeAt Go.RowKit

theorem ownK : ownKnob Try.prog.godebug = none := by kernel_rfl
theorem laidOut : laidOutB Try.prog = true := by kernel_rfl
theorem cells3 : Try.prog.cellsOf 3 = 1 := by kernel_rfl

theorem cells_ints {W : World} {k : IntKind} {a : Addr} {zs : List Int} (hcell : ∀ i, i < zs.length → W.cell? (a.add i) = some (.int k (zs.getD i 0))) : Cells W (some a) (zs.map (Value.int k)) := fun hne => by
  have h0 : 0 < zs.length := by
    cases zs with
    | nil => exact absurd rfl hne
    | cons x r => simp
  obtain ⟨b, off, spot⟩ := a
  have hspot : spot = none := by simpa [Addr.add] using World.cell?_spot (hcell 0 h0)
  subst hspot
  refine ⟨b, off, rfl, fun i u hu => ?_⟩
  rw [List.getElem?_map] at hu
  cases hz : zs[i]? with
  | none => rw [hz] at hu; cases hu
  | some x =>
    rw [hz] at hu
    have hi : i < zs.length := (List.getElem?_eq_some_iff.1 hz).1
    have := hcell i hi
    rw [addr_add] at this
    rw [this, ← hu]
    simp [List.getD_eq_getElem?_getD, hz]

theorem cells_take_i {w : World} {a : Option Addr} {l : List Int} (h : Cells w a (iCells l)) (m : Nat) : Cells w a (iCells (l.take m)) := fun hne => by
  have hne' : iCells l ≠ [] := fun e => hne (by
    have : l = [] := by simpa [iCells] using e
    simp [iCells, this])
  obtain ⟨b, off, e, hc⟩ := h hne'
  refine ⟨b, off, e, fun i u hu => hc i u ?_⟩
  simp only [iCells, List.getElem?_map, List.getElem?_take] at hu ⊢
  split at hu
  · exact hu
  · cases hu

/-- A list of ints that came in. -/
theorem view_int {H : Type} {enc : TypeId × Value → H} {W : World} {a : Option Addr} {len cap : Nat} {d : DataW H} {p : List MemPlace} (h : DataW.Trod enc Try.prog W 0 (fun _ => true) true 22 (.slice a len cap) d p) :
    ∃ z : List Int, z.length = len ∧ len ≤ cap ∧ (a = none → cap = 0) ∧ Cells W a (iCells z) ∧ ∀ i, i < z.length → -9223372036854775808 ≤ z.getD i 0 ∧ z.getD i 0 ≤ 9223372036854775807 := by
  obtain ⟨fuel, hf⟩ := h
  rcases open_ints Try.underlying22 Try.underlying3 cells3 hf with ⟨hcs, hx⟩ | ⟨a', len', cap', zs, hcs, _, hl, hm, hz, hx, hcell, hwz⟩
  · simp [Value.cells] at hcs
    obtain ⟨rfl, rfl, rfl⟩ := hcs
    exact ⟨[], rfl, Nat.le_refl _, fun _ => rfl, Cells.nil _ _, fun i hi => absurd hi (Nat.not_lt_zero i)⟩
  · simp [Value.cells] at hcs
    obtain ⟨rfl, rfl, rfl⟩ := hcs
    simp only [if_true] at hz
    refine ⟨zs.take len, by simp; omega, hl, (fun h => by cases h), cells_take_i (cells_ints hcell) len, fun i hi => ?_⟩
    have hi' : i < zs.length := by simp at hi; omega
    have hb := bounds_i64 (hwz _ (List.getElem_mem hi'))
    have e : (zs.take len).getD i 0 = zs[i] := by
      have hi2 : i < len := by simp at hi; omega
      simp [List.getD_eq_getElem?_getD, hi2, List.getElem?_eq_getElem hi']
    rw [e]
    exact hb
end Go.Proofs.Ytcececjnndhalaa
