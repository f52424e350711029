/- A walk that came in: a program, two numbers, which way to go. -/
import Derived.Test.YtehapcoppghppaaDoorVLBase
import Derived.Test.YtehapcoppghppaaDoorVW9
import Derived.Deep.Grids
namespace Go.Proofs.YtehapcoppghppaaDoor
open Go.ChangeShapes Go.WideShapes Go.ChangeAt Go.RowKit

theorem cellsBool : Tryd.prog.cellsOf 4 = 1 := by kernel_rfl
theorem cellsWalk : Tryd.prog.cellsOf 36 = 4 := by kernel_rfl
theorem cellsLI : Tryd.prog.cellsOf 23 = 1 := by kernel_rfl
theorem cellsLB : Tryd.prog.cellsOf 34 = 1 := by kernel_rfl

theorem bls_of {W : World} {a : Addr} {bs : List Bool} {m : Nat} (hm : m ≤ bs.length) (hcell : ∀ i, i < bs.length → W.cell? (a.add i) = some (.bool (bs.getD i false))) : Bls W (some a) (bs.take m) := fun i hi => by
  have hi' : i < bs.length := by simp at hi; omega
  have him : i < m := by simp at hi; omega
  obtain ⟨b, off, spot⟩ := a
  have hspot : spot = none := by simpa [Addr.add] using World.cell?_spot (hcell 0 (by omega))
  subst hspot
  refine ⟨b, off, rfl, ?_⟩
  have h1 := hcell i hi'
  rw [addr_add] at h1
  rw [h1]
  simp [List.getD_eq_getElem?_getD, him, hi']

theorem view_walk {H : Type} {enc : TypeId × Value → H} {W : World} {base : Nat} {v : Value} {d : DataW H} {p : List MemPlace} (hv : Value.okWide Tryd.prog W .any base 36 v)
    (h : DataW.Trod enc Tryd.prog W 0 (fun _ => true) true 36 v d p) : ∃ (a aw : Option Addr) (cap cw : Nat) (l : List Ins) (k hh : Int) (way : List Bool),
      v = .agg #[.slice a l.length cap, .int .i64 k, .int .i64 hh, .slice aw way.length cw] ∧ Prg W a l ∧ Bls W aw way := by
  obtain ⟨⟨L⟩, rfl, hs⟩ := okWide_struct Tryd.underlying36 hv
  obtain ⟨fuel, hf⟩ := h
  have hf : DataW.trod enc Tryd.prog W 0 (fun _ => true) true fuel 36 L = some (d, p) := hf
  obtain ⟨ys, m, _, _, hcl, hyl, hall⟩ := DataW.trod_struct Tryd.underlying36 hf
  rw [cellsWalk] at hcl
  have t0 := hall 0 _ rfl
  have t1 := hall 1 _ rfl
  have t2 := hall 2 _ rfl
  have t3 := hall 3 _ rfl
  match L, hcl, ys, hyl with
  | [c0, c1, c2, c3], _, [z0, z1, z2, z3], _ =>
    obtain ⟨n1, e1, _, w1⟩ := DataW.trod_int Tryd.underlying3 t1
    obtain ⟨n2, e2, _, w2⟩ := DataW.trod_int Tryd.underlying3 t2
    simp [cellsInt] at e1 e2
    subst e1 e2
    have t0 : DataW.trod enc Tryd.prog W 0 (fun _ => true) true m 23 [c0] = some z0 := by
      have := t0
      simpa [cellsLI] using this
    have t3 : DataW.trod enc Tryd.prog W 0 (fun _ => true) true m 34 [c3] = some z3 := by
      have := t3
      simpa [cellsLB] using this
    obtain ⟨a, len, cap, rfl⟩ : ∃ a len cap, c0 = .slice a len cap := by
      rcases DataW.trod_slice Tryd.underlying23 t0 with ⟨hcs, _⟩ | ⟨a', len', cap', _, _, _, _, hcs, _⟩
      · exact ⟨none, 0, 0, by simpa using hcs⟩
      · exact ⟨some a', len', cap', by simpa using hcs⟩
    obtain ⟨l, rfl, _, _, hP, _⟩ := view_prog (a := a) (len := len) (cap := cap) (d := z0.1) (p := z0.2) ⟨m, t0⟩
    rcases Go.Deep.open_bools Tryd.underlying34 Tryd.underlying4 cellsBool t3 with ⟨hcs, _⟩ | ⟨a', len', cap', B, hcs, _, hl, _, _, hcell⟩
    · obtain rfl : c3 = .slice none 0 0 := by simpa [cellsLB] using hcs
      exact ⟨a, none, cap, 0, l, n1, n2, [], rfl, hP, fun i hi => absurd hi (Nat.not_lt_zero i)⟩
    · obtain rfl : c3 = .slice (some a') len' cap' := by simpa [cellsLB] using hcs
      refine ⟨a, some a', cap, cap', l, n1, n2, ((List.range cap').map B).take len', ?_, hP, bls_of (by simp; omega) (fun i hi => ?_)⟩
      · have e : (((List.range cap').map B).take len').length = len' := by simp; omega
        rw [e]
      · have hi' : i < cap' := by simpa using hi
        rw [hcell i hi']
        simp [List.getD_eq_getElem?_getD, hi']
end Go.Proofs.YtehapcoppghppaaDoor
