/- What the rows with lists among their arguments need: a list that came in, as the walks ask it. -/
import Derived.Test.YtaikeeidjfcijaaRows
import Derived.Test.YtaikeeidjfcijaaW14
import Derived.ProofKit
import Derived.OpenShut
import Derived.SizedLaws
namespace Go.Proofs.Ytaikeeidjfcijaa
open Go.ChangeShapes Go.WideShapes Go.ChangeAt Go.RowKit

theorem ownK : ownKnob Try.prog.godebug = none := by kernel_rfl
theorem laidOut : laidOutB Try.prog = true := by kernel_rfl
theorem cells3 : Try.prog.cellsOf 3 = 1 := by kernel_rfl
theorem cells35 : Try.prog.cellsOf 35 = 1 := by kernel_rfl

theorem cells_ints {W : World} {k : IntKind} {a : Addr} {zs : List Int} (hcell : ∀ i, i < zs.length → W.cell? (a.add i) = some (.int k (zs.getD i 0))) : Cells W (some a) (zs.map (Value.int k)) := fun hne => by
  have h0 : 0 < zs.length := by
    cases zs with
    | nil => exact absurd rfl hne
    | cons x r => simp
  obtain ⟨b, off, spot⟩ := a
  have hspot : spot = none := by simpa [Addr.add] using World.cell?_spot (hcell 0 h0)
  subst hspot
  refine ⟨b, off, rfl, fun i u hu => ?_⟩
  rw [List.getElem?_map] at hu
  cases hz : zs[i]? with
  | none => rw [hz] at hu; cases hu
  | some x =>
    rw [hz] at hu
    have hi : i < zs.length := (List.getElem?_eq_some_iff.1 hz).1
    have := hcell i hi
    rw [addr_add] at this
    rw [this, ← hu]
    simp [List.getD_eq_getElem?_getD, hz]

/-- A list of ints that came in. -/
theorem view_int {H : Type} {enc : TypeId × Value → H} {W : World} {a : Option Addr} {len cap : Nat} {d : DataW H} {p : List MemPlace} (h : DataW.Trod enc Try.prog W 0 (fun _ => true) true 33 (.slice a len cap) d p) :
    ∃ z : List Int, z.length = len ∧ len ≤ cap ∧ (a = none → cap = 0) ∧ Cells W a (iCells z) := by
  obtain ⟨fuel, hf⟩ := h
  rcases open_ints Try.underlying33 Try.underlying3 cells3 hf with ⟨hcs, hx⟩ | ⟨a', len', cap', zs, hcs, _, hl, hm, hz, hx, hcell, hwz⟩
  · simp [Value.cells] at hcs
    obtain ⟨rfl, rfl, rfl⟩ := hcs
    exact ⟨[], rfl, Nat.le_refl _, fun _ => rfl, Cells.nil _ _⟩
  · simp [Value.cells] at hcs
    obtain ⟨rfl, rfl, rfl⟩ := hcs
    simp only [if_true] at hz
    exact ⟨zs.take len, by simp; omega, hl, (fun h => by cases h), cells_take_i (cells_ints hcell) len⟩

/-- A list of labels that came in. -/
theorem view_lab {H : Type} {enc : TypeId × Value → H} {W : World} {a : Option Addr} {len cap : Nat} {d : DataW H} {p : List MemPlace} (h : DataW.Trod enc Try.prog W 0 (fun _ => true) true 23 (.slice a len cap) d p) :
    ∃ l : List Nat, l.length = len ∧ len ≤ cap ∧ (a = none → cap = 0) ∧ Cells W a (labCells l) ∧ ∀ i, l.getD i 0 < 18446744073709551616 := by
  obtain ⟨fuel, hf⟩ := h
  rcases open_ints Try.underlying23 Try.underlying35 cells35 hf with ⟨hcs, hx⟩ | ⟨a', len', cap', zs, hcs, _, hl, hm, hz, hx, hcell, hwz⟩
  · simp [Value.cells] at hcs
    obtain ⟨rfl, rfl, rfl⟩ := hcs
    exact ⟨[], rfl, Nat.le_refl _, fun _ => rfl, Cells.nil _ _, fun i => by simp⟩
  · simp [Value.cells] at hcs
    obtain ⟨rfl, rfl, rfl⟩ := hcs
    simp only [if_true] at hz
    have hb : ∀ n ∈ zs, 0 ≤ n ∧ n ≤ 18446744073709551615 := fun n hn => bounds_u64 (hwz n hn)
    have e : labCells (zs.map Int.toNat) = zs.map (Value.int .u64) := by
      simp only [labCells, List.map_map]
      apply List.map_congr_left
      intro n hn
      have := hb n hn
      simp only [Function.comp]
      congr 1
      omega
    refine ⟨(zs.map Int.toNat).take len, by simp; omega, hl, (fun h => by cases h), cells_take_lab (by rw [e]; exact cells_ints hcell) len, getD_take_lt (fun i => ?_) len⟩
    rw [List.getD_eq_getElem?_getD, List.getElem?_map]
    cases hi : zs[i]? with
    | none => simp
    | some x =>
      have := hb x (List.mem_of_getElem? hi)
      simp
      omega
end Go.Proofs.Ytaikeeidjfcijaa
