/- An instruction that came in, as the walk asks it. -/
import Derived.Test.YtngihjmhedkanaaDoorLBase
namespace Go.Proofs.YtngihjmhedkanaaDoor
open Go.ChangeShapes Go.WideShapes Go.ChangeAt Go.RowKit

theorem view_ins {H : Type} {enc : TypeId × Value → H} {W : World} {base : Nat} {v : Value} {d : DataW H} {p : List MemPlace} (hv : Value.okWide Tryd.prog W .any base 25 v)
    (h : DataW.Trod enc Tryd.prog W 0 (fun _ => true) true 25 v d p) : ∃ x : Ins, v = insV x := by
  obtain ⟨⟨L⟩, rfl, hs⟩ := okWide_struct Tryd.underlying25 hv
  obtain ⟨fuel, hf⟩ := h
  have hf : DataW.trod enc Tryd.prog W 0 (fun _ => true) true fuel 25 L = some (d, p) := hf
  obtain ⟨ys, m, _, _, hcl, hyl, hall⟩ := DataW.trod_struct Tryd.underlying25 hf
  rw [cellsIns] at hcl
  have t0 := hall 0 _ rfl
  have t1 := hall 1 _ rfl
  have t2 := hall 2 _ rfl
  have t3 := hall 3 _ rfl
  have t4 := hall 4 _ rfl
  match L, hcl, ys, hyl with
  | [c0, c1, c2, c3, c4], _, [z0, z1, z2, z3, z4], _ =>
    obtain ⟨n0, e0, _, w0⟩ := DataW.trod_int Tryd.underlying3 t0
    obtain ⟨n1, e1, _, w1⟩ := DataW.trod_int Tryd.underlying3 t1
    obtain ⟨n2, e2, _, w2⟩ := DataW.trod_int Tryd.underlying3 t2
    obtain ⟨n3, e3, _, w3⟩ := DataW.trod_int Tryd.underlying3 t3
    obtain ⟨n4, e4, _, w4⟩ := DataW.trod_int Tryd.underlying2 t4
    simp [cellsInt, cellsI64] at e0 e1 e2 e3 e4
    subst e0 e1 e2 e3 e4
    exact ⟨⟨n0, n1, n2, n3, n4⟩, rfl⟩
end Go.Proofs.YtngihjmhedkanaaDoor
