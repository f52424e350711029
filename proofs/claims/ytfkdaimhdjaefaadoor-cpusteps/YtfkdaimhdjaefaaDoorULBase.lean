/- What every row of this seat needs: no knob of its own is turned; a state in which the table is laid; what came in, as the walks ask it. -/
import Derived.Test.YtfkdaimhdjaefaaDoorRows
import Derived.Test.YtfkdaimhdjaefaaDoorU6
import Derived.Lib.LaidU8
import Derived.Lib.OwnBridge
import Derived.ChangeArms
import Derived.ChangeSlices
import Derived.Lay
import Derived.LaidLaws
import Derived.ProofKit
import Derived.OpenShut
import Derived.SizedLaws
import Derived.SevenTiedAt
import Derived.Deep.Strs
namespace Go.Proofs.YtfkdaimhdjaefaaDoor
open Go.ChangeShapes Go.WideShapes Go.ChangeAt Go.RowKit

theorem addr_add (b off j : Nat) : (⟨b, off, none⟩ : Addr).add j = ⟨b, off + j, none⟩ := by
  unfold Addr.add
  split
  · rename_i h; subst h; rfl
  · rfl
theorem ins_of_cells {w : World} {b o : Nat} {x : Ins} (h : ∀ r, r < 5 → w.cell? ⟨b, o + r, none⟩ = (insCells x)[r]?) : InsAt w b o x :=
  ⟨h 0 (by omega), h 1 (by omega), h 2 (by omega), h 3 (by omega), h 4 (by omega)⟩
def Fit (x : Ins) : Prop := -9223372036854775808 ≤ x.imm ∧ x.imm ≤ 9223372036854775807
theorem own : ownKnob Tryd.prog.godebug = none := by kernel_rfl
theorem laidOut : laidOutB Tryd.prog = true := by kernel_rfl
def laidAll : List (String × DataW Unit) := [("firebreak/code.fields", Rows.laid_firebreak_code_fields)]

theorem laid_plain {w : World} (h : laidMetH Tryd.prog laidAll w) : laidMet Tryd.prog laidAll w := by
  rw [MakeChecks.laidMetH_plain _ _ _ (by kernel_rfl)] at h
  exact h

theorem laid_shaped (os : Os) (args : Array Value) : ((World.laidAll Tryd.prog os laidAll).forCall (fun _ _ => 0) ⟨#[], args, []⟩).Shaped Tryd.prog := World.shaped_of_ZipB (by kernel_rfl) (by kernel_rfl)

theorem laid_met (os : Os) (args : Array Value) : laidMetH Tryd.prog laidAll ((World.laidAll Tryd.prog os laidAll).forCall (fun _ _ => 0) ⟨#[], args, []⟩).memory := by
  rw [MakeChecks.laidMetH_plain _ _ _ (by kernel_rfl)]
  exact laidMet_laidAll _ (by kernel_rfl) (by kernel_rfl)

theorem fld_of_laid {w : World} (h : laidMet Tryd.prog laidAll w) : Fld w := by
  have h := Lib.laidMet.reads h (n := "firebreak/code.fields") (d := Rows.laid_firebreak_code_fields) (by simp [laidAll])
  obtain ⟨g, t, cs, fuel, p, hg, ht, hv, hr⟩ := h
  have e1 : Tryd.prog.globalNamed "firebreak/code.fields" = some 0 := by kernel_rfl
  obtain rfl : 0 = g := Option.some.inj (e1.symm.trans hg)
  have e2 : (Tryd.prog.globals[0]?).map (·.type) = some 97 := by kernel_rfl
  obtain rfl : 97 = t := Option.some.inj (e2.symm.trans ht)
  have c1 : Tryd.prog.cellsOf 5 = 1 := by kernel_rfl
  have c2 : Tryd.prog.cellsOf 97 = 34 := by kernel_rfl
  have hdd : (Rows.laid_firebreak_code_fields : DataW Unit) = Lib.tabData .u8 tabF := by kernel_rfl
  rw [hdd] at hr
  have hcs := Lib.cells_of_tab Tryd.underlying97 Tryd.underlying5 c1 c2 hr
  intro i hi
  rw [World.var?_cell hg hv i, ← Array.getElem?_toList, hcs]
  have hl : i < tabF.length := hi
  simp [List.getD_eq_getElem?_getD, hl]

theorem cellsIns : Tryd.prog.cellsOf 28 = 5 := by kernel_rfl
theorem cellsInt : Tryd.prog.cellsOf 3 = 1 := by kernel_rfl
theorem cellsI64 : Tryd.prog.cellsOf 2 = 1 := by kernel_rfl

set_option maxRecDepth 100000 in
/-- A program that came in. -/
theorem view_prog {H : Type} {enc : TypeId × Value → H} {W : World} {a : Option Addr} {len cap : Nat} {d : DataW H} {p : List MemPlace} (h : DataW.Trod enc Tryd.prog W 0 (fun _ => true) true 26 (.slice a len cap) d p) :
    ∃ l : List Ins, l.length = len ∧ len ≤ cap ∧ (a = none → cap = 0) ∧ Prg W a l ∧ ∀ x ∈ l, Fit x := by
  obtain ⟨fuel, hf⟩ := h
  rcases DataW.trod_slice Tryd.underlying26 hf with ⟨hcs, hx⟩ | ⟨a', len', cap', elems, rest, n, _, hcs, hx, hb, hl, hm, hlen, hel, _, _⟩
  · simp [Value.cells] at hcs
    obtain ⟨rfl, rfl, rfl⟩ := hcs
    exact ⟨[], rfl, Nat.le_refl _, fun _ => rfl, fun i hi => absurd hi (Nat.not_lt_zero i), fun x hx => by simp at hx⟩
  · simp [Value.cells] at hcs
    obtain ⟨rfl, rfl, rfl⟩ := hcs
    have each : ∀ i, i < len → ∃ x : Ins, (∀ r, r < 5 → W.cell? ((a'.add (i * 5)).add r) = (insCells x)[r]?) ∧ Fit x := by
      intro i hi
      have h1 := hel i hi
      have h2 : ∃ y, elems[i]? = some y := ⟨_, List.getElem?_eq_getElem (by omega)⟩
      obtain ⟨y, hy⟩ := h2
      rw [hy, cellsIns, Option.bind_eq_some_iff] at h1
      obtain ⟨cs, hc, ht⟩ := h1
      obtain ⟨ys, m, _, _, hcl, hyl, hall⟩ := DataW.trod_struct Tryd.underlying28 ht
      rw [cellsIns] at hcl
      have t0 := hall 0 _ rfl
      have t1 := hall 1 _ rfl
      have t2 := hall 2 _ rfl
      have t3 := hall 3 _ rfl
      have t4 := hall 4 _ rfl
      match cs, hcl, ys, hyl with
      | [c0, c1, c2, c3, c4], _, [z0, z1, z2, z3, z4], _ =>
        obtain ⟨n0, e0, _, w0⟩ := DataW.trod_int Tryd.underlying3 t0
        obtain ⟨n1, e1, _, w1⟩ := DataW.trod_int Tryd.underlying3 t1
        obtain ⟨n2, e2, _, w2⟩ := DataW.trod_int Tryd.underlying3 t2
        obtain ⟨n3, e3, _, w3⟩ := DataW.trod_int Tryd.underlying3 t3
        obtain ⟨n4, e4, _, w4⟩ := DataW.trod_int Tryd.underlying2 t4
        simp [cellsInt, cellsI64] at e0 e1 e2 e3 e4
        subst e0 e1 e2 e3 e4
        have hcell := (World.cells?_some hc).2.2
        have b4 := bounds_i64 w4
        refine ⟨⟨n0, n1, n2, n3, n4⟩, fun r hr => ?_, b4⟩
        rw [hcell r (by simpa using hr)]
        rfl
    have all : ∀ k, k ≤ len → ∃ l : List Ins, l.length = k ∧ (∀ i, i < k → ∀ r, r < 5 → W.cell? ((a'.add (i * 5)).add r) = (insCells (l.getD i default))[r]?) ∧ ∀ x ∈ l, Fit x := by
      intro k
      induction k with
      | zero => intro _; exact ⟨[], rfl, fun i hi => absurd hi (Nat.not_lt_zero i), fun x hx => by simp at hx⟩
      | succ k ih =>
        intro hk
        obtain ⟨l, hl', hall, hfit⟩ := ih (by omega)
        obtain ⟨x, hx, hfx⟩ := each k (by omega)
        refine ⟨l ++ [x], by simp [hl'], fun i hi r hr => ?_, fun y hy => ?_⟩
        · by_cases hik : i < k
          · have e : (l ++ [x]).getD i default = l.getD i default := by
              rw [List.getD_eq_getElem?_getD, List.getD_eq_getElem?_getD, List.getElem?_append_left (by omega)]
            rw [e]
            exact hall i hik r hr
          · obtain rfl : i = k := by omega
            have e : (l ++ [x]).getD i default = x := by
              rw [List.getD_eq_getElem?_getD, List.getElem?_append_right (by omega), hl']
              simp
            rw [e]
            exact hx r hr
        · rcases List.mem_append.1 hy with h | h
          · exact hfit y h
          · simp at h; rw [h]; exact hfx
    obtain ⟨l, hl', hall, hfit⟩ := all len (Nat.le_refl _)
    refine ⟨l, hl', hl, (fun h => by cases h), fun i hi => ?_, hfit⟩
    obtain ⟨b, off, spot⟩ := a'
    have hspot : spot = none := by
      have h0 := hall 0 (by omega) 0 (by omega)
      have h1 : W.cell? (((⟨b, off, spot⟩ : Addr).add (0 * 5)).add 0) = some (.int .i64 (l.getD 0 default).op) := h0
      simpa [Addr.add] using World.cell?_spot h1
    subst hspot
    refine ⟨b, off, rfl, ins_of_cells (fun r hr => ?_)⟩
    have := hall i (by omega) r hr
    rw [addr_add, addr_add] at this
    exact this

theorem cellsCore : Tryd.prog.cellsOf 25 = 9 := by kernel_rfl
theorem cellsRegs : Tryd.prog.cellsOf 23 = 8 := by kernel_rfl

set_option maxRecDepth 100000 in
/-- A core that came in. -/
theorem view_core {H : Type} {enc : TypeId × Value → H} {W : World} {base : Nat} {v : Value} {d : DataW H} {p : List MemPlace} (hv : Value.okWide Tryd.prog W .any base 25 v)
    (h : DataW.Trod enc Tryd.prog W 0 (fun _ => true) true 25 v d p) : ∃ c : Core, v = coreV c ∧ GoodC c := by
  obtain ⟨⟨L⟩, rfl, hs⟩ := okWide_struct Tryd.underlying25 hv
  obtain ⟨fuel, hf⟩ := h
  have hf : DataW.trod enc Tryd.prog W 0 (fun _ => true) true fuel 25 L = some (d, p) := hf
  obtain ⟨ys, m, _, _, hcl, hyl, hall⟩ := DataW.trod_struct Tryd.underlying25 hf
  rw [cellsCore] at hcl
  have t0 := hall 0 _ rfl
  have t1 : DataW.trod enc Tryd.prog W 0 (fun _ => true) true m 23 ((L.drop 1).take (Tryd.prog.cellsOf 23)) = ys[1]? := hall 1 _ rfl
  rw [cellsRegs] at t1
  match L, hcl, ys, hyl with
  | [c0, c1, c2, c3, c4, c5, c6, c7, c8], _, [z0, z1], _ =>
    obtain ⟨n0, e0, _, w0⟩ := DataW.trod_int Tryd.underlying3 t0
    simp [cellsInt] at e0
    subst e0
    obtain ⟨xs, k, _, _, _, hl, hel⟩ := DataW.trod_array Tryd.underlying23 t1
    rw [cellsI64] at hel
    simp only [List.drop_succ_cons, List.drop_zero, Nat.mul_one] at hel
    match xs, hl with
    | [x0, x1, x2, x3, x4, x5, x6, x7], _ =>
      obtain ⟨m0, q0, _, s0⟩ := DataW.trod_int Tryd.underlying2 (hel 0 (by omega))
      obtain ⟨m1, q1, _, s1⟩ := DataW.trod_int Tryd.underlying2 (hel 1 (by omega))
      obtain ⟨m2, q2, _, s2⟩ := DataW.trod_int Tryd.underlying2 (hel 2 (by omega))
      obtain ⟨m3, q3, _, s3⟩ := DataW.trod_int Tryd.underlying2 (hel 3 (by omega))
      obtain ⟨m4, q4, _, s4⟩ := DataW.trod_int Tryd.underlying2 (hel 4 (by omega))
      obtain ⟨m5, q5, _, s5⟩ := DataW.trod_int Tryd.underlying2 (hel 5 (by omega))
      obtain ⟨m6, q6, _, s6⟩ := DataW.trod_int Tryd.underlying2 (hel 6 (by omega))
      obtain ⟨m7, q7, _, s7⟩ := DataW.trod_int Tryd.underlying2 (hel 7 (by omega))
      simp at q0 q1 q2 q3 q4 q5 q6 q7
      subst q0 q1 q2 q3 q4 q5 q6 q7
      refine ⟨⟨n0, fun i => if i = 0 then m0 else if i = 1 then m1 else if i = 2 then m2 else if i = 3 then m3 else if i = 4 then m4 else if i = 5 then m5 else if i = 6 then m6 else m7⟩, rfl, fun j hj => ?_⟩
      have b0 := bounds_i64 s0
      have b1 := bounds_i64 s1
      have b2 := bounds_i64 s2
      have b3 := bounds_i64 s3
      have b4 := bounds_i64 s4
      have b5 := bounds_i64 s5
      have b6 := bounds_i64 s6
      have b7 := bounds_i64 s7
      have h : j = 0 ∨ j = 1 ∨ j = 2 ∨ j = 3 ∨ j = 4 ∨ j = 5 ∨ j = 6 ∨ j = 7 := by omega
      rcases h with rfl | rfl | rfl | rfl | rfl | rfl | rfl | rfl
      · exact b0
      · exact b1
      · exact b2
      · exact b3
      · exact b4
      · exact b5
      · exact b6
      · exact b7
end Go.Proofs.YtfkdaimhdjaefaaDoor
