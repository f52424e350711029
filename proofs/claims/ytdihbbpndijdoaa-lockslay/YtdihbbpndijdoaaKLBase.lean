/- Lists that came in, as the walks ask them. -/
import Derived.Test.YtdihbbpndijdoaaRows
import Derived.Test.YtdihbbpndijdoaaKS5
import Derived.ProofKit
import Derived.OpenShut
import Derived.SizedLaws
namespace Go.Proofs.Ytdihbbpndijdoaa
open Go.ChangeShapes Go.WideShapes Go.ChangeAt Go.RowKit

theorem ownK : ownKnob Try.prog.godebug = none := by kernel_rfl
theorem laidOut : laidOutB Try.prog = true := by kernel_rfl
theorem cellsInt : Try.prog.cellsOf 3 = 1 := by kernel_rfl
theorem cellsOp : Try.prog.cellsOf 41 = 3 := by kernel_rfl
theorem bytesInt : Try.prog.bytesOf 3 = 8 := by kernel_rfl
theorem bytesOp : Try.prog.bytesOf 41 = 24 := by kernel_rfl

/-- A list of things that lie flat, each of c cells. -/
theorem view_flat {H : Type} {enc : TypeId × Value → H} {W : World} {α : Type} (f : α → List Value) (c : Nat) (hc : 0 < c) (hfl : ∀ x, (f x).length = c) (Px : α → Prop) {t e : TypeId} (ht : Try.prog.underlying t = some (.slice e)) (hce : Try.prog.cellsOf e = c)
    (hel : ∀ fuel cs y, DataW.trod enc Try.prog W 0 (fun _ => true) true fuel e cs = some y → ∃ x, cs = f x ∧ Px x)
    {a : Option Addr} {len cap : Nat} {d : DataW H} {p : List MemPlace} (h : DataW.Trod enc Try.prog W 0 (fun _ => true) true t (.slice a len cap) d p) :
    ∃ l : List α, l.length = len ∧ Rd W a (l.flatMap f) ∧ (∀ x ∈ l, Px x) ∧ (len = 0 ∨ ∃ elems spare, d = .slice elems spare ∧ len ≤ elems.length + spare.length) := by
  obtain ⟨fuel, hf⟩ := h
  rcases DataW.trod_slice ht hf with ⟨hcs, hx⟩ | ⟨a', len', cap', elems, rest, n, _, hcs, hx, hb, hl, hm, hlen, hell, hx2, hx3⟩
  · simp [Value.cells] at hcs
    obtain ⟨rfl, rfl, rfl⟩ := hcs
    exact ⟨[], rfl, fun j u hj => by simp at hj, fun x hx => by simp at hx, .inl rfl⟩
  · simp [Value.cells] at hcs
    obtain ⟨rfl, rfl, rfl⟩ := hcs
    have each : ∀ i, i < len → ∃ x : α, (∀ r, r < c → W.cell? ((a'.add (i * c)).add r) = (f x)[r]?) ∧ Px x := by
      intro i hi
      have h1 := hell i hi
      have h2 : ∃ y, elems[i]? = some y := ⟨_, List.getElem?_eq_getElem (by omega)⟩
      obtain ⟨y, hy⟩ := h2
      rw [hy, hce, Option.bind_eq_some_iff] at h1
      obtain ⟨cs, hc', ht'⟩ := h1
      obtain ⟨x, rfl, hpx⟩ := hel _ _ _ ht'
      have hcell := (World.cells?_some hc').2.2
      refine ⟨x, fun r hr => ?_, hpx⟩
      rw [hcell r hr]
    have all : ∀ k, k ≤ len → ∃ l : List α, l.length = k ∧ (∀ j u, (l.flatMap f)[j]? = some u → W.cell? ((a'.add (j / c * c)).add (j % c)) = some u) ∧ ∀ x ∈ l, Px x := by
      intro k
      induction k with
      | zero => intro _; exact ⟨[], rfl, fun j u hj => by simp at hj, fun x hx => by simp at hx⟩
      | succ k ih =>
        intro hk
        obtain ⟨l, hl', hall, hpx⟩ := ih (by omega)
        obtain ⟨x, hx, hfx⟩ := each k (by omega)
        have hfm : (l.flatMap f).length = k * c := by
          rw [List.length_flatMap]
          have : (l.map fun x => (f x).length) = List.replicate l.length c := by
            rw [List.eq_replicate_iff]
            exact ⟨by simp, fun y hy => by obtain ⟨z, _, rfl⟩ := List.mem_map.mp hy; exact hfl z⟩
          rw [this, hl']
          simp
        refine ⟨l ++ [x], by simp [hl'], fun j u hj => ?_, fun y hy => ?_⟩
        · rw [List.flatMap_append, List.flatMap_cons, List.flatMap_nil, List.append_nil] at hj
          by_cases hjk : j < k * c
          · rw [List.getElem?_append_left (by omega)] at hj
            exact hall j u hj
          · rw [List.getElem?_append_right (by omega), hfm] at hj
            have hr : j - k * c < c := by
              rcases Nat.lt_or_ge (j - k * c) c with h | h
              · exact h
              · rw [List.getElem?_eq_none (by rw [hfl]; exact h)] at hj; cases hj
            have e1 : j / c = k := by
              rw [show j = (j - k * c) + c * k by rw [Nat.mul_comm c k]; omega, Nat.add_mul_div_left _ _ hc, Nat.div_eq_of_lt hr]
              omega
            have e2 : j % c = j - k * c := by
              have := Nat.div_add_mod j c
              rw [e1, Nat.mul_comm] at this
              omega
            rw [e1, e2, hx _ hr, hj]
        · rcases List.mem_append.1 hy with h | h
          · exact hpx y h
          · simp at h; rw [h]; exact hfx
    obtain ⟨l, hl', hall, hpx⟩ := all len (Nat.le_refl _)
    refine ⟨l, hl', fun j u hj => ?_, hpx, .inr ⟨_, _, congrArg Prod.fst hx, by simp; omega⟩⟩
    · have h1 := hall j u hj
      obtain ⟨b, off, spot⟩ := a'
      have hspot : spot = none := by
        have hj0 : 0 < (l.flatMap f).length := by
          rcases Nat.eq_zero_or_pos (l.flatMap f).length with h | h
          · rw [List.eq_nil_of_length_eq_zero h] at hj; simp at hj
          · exact h
        have h0 := hall 0 _ (List.getElem?_eq_getElem hj0)
        rw [Nat.zero_div, Nat.zero_mul, Nat.zero_mod] at h0
        simpa [Addr.add] using World.cell?_spot h0
      subst hspot
      rw [addr_add, addr_add, Nat.add_assoc, Nat.mul_comm, Nat.div_add_mod] at h1
      exact ⟨b, off, rfl, h1⟩

theorem iC_flat (l : List Int) : l.flatMap (fun x => [Value.int .i64 x]) = iC l := by
  induction l with
  | nil => rfl
  | cons x r ih => rw [List.flatMap_cons, ih]; rfl
/-- A list of whole numbers, of the kind int or int64. -/
theorem view_nums {H : Type} {enc : TypeId × Value → H} {W : World} {T e : TypeId} (hT : Try.prog.underlying T = some (.slice e)) (he : Try.prog.underlying e = some (.int .i64)) (hc : Try.prog.cellsOf e = 1) {a : Option Addr} {len cap : Nat} {d : DataW H} {p : List MemPlace} (h : DataW.Trod enc Try.prog W 0 (fun _ => true) true T (.slice a len cap) d p) :
    ∃ l : List Int, l.length = len ∧ Rd W a (iC l) ∧ (∀ x ∈ l, Fit64 x) ∧ (len = 0 ∨ ∃ elems spare, d = .slice elems spare ∧ len ≤ elems.length + spare.length) := by
  obtain ⟨l, h1, h2, h3, h4⟩ := view_flat (fun x => [Value.int .i64 x]) 1 (by decide) (fun _ => rfl) Fit64 hT hc (fun fuel cs y hy => by
    obtain ⟨b, e, _, w0⟩ := DataW.trod_int he hy
    exact ⟨b, e, bounds_i64 w0⟩) h
  rw [iC_flat] at h2
  exact ⟨l, h1, h2, h3, h4⟩
set_option maxRecDepth 100000 in
theorem view_ops {H : Type} {enc : TypeId × Value → H} {W : World} {a : Option Addr} {len cap : Nat} {d : DataW H} {p : List MemPlace} (h : DataW.Trod enc Try.prog W 0 (fun _ => true) true 23 (.slice a len cap) d p) :
    ∃ l : List Op3, l.length = len ∧ Rd W a (opC l) ∧ (∀ x ∈ l, Fit64 x.2.2) ∧ (len = 0 ∨ ∃ elems spare, d = .slice elems spare ∧ len ≤ elems.length + spare.length) := by
  obtain ⟨l, h1, h2, h3, h4⟩ := view_flat opP 3 (by decide) (fun _ => rfl) (fun x => Fit64 x.2.2) Try.underlying23 cellsOp (fun fuel cs y hy => by
    obtain ⟨ys, m, _, _, hcl, hyl, hall⟩ := DataW.trod_struct Try.underlying41 hy
    rw [cellsOp] at hcl
    have t0 := hall 0 _ rfl
    have t1 := hall 1 _ rfl
    have t2 := hall 2 _ rfl
    match cs, hcl, ys, hyl with
    | [x0, x1, x2], _, [z0, z1, z2], _ =>
      obtain ⟨n0, e0, _, w0⟩ := DataW.trod_int Try.underlying3 t0
      obtain ⟨n1, e1, _, w1⟩ := DataW.trod_int Try.underlying3 t1
      obtain ⟨n2, e2, _, w2⟩ := DataW.trod_int Try.underlying3 t2
      simp [cellsInt] at e0 e1 e2
      subst e0 e1 e2
      exact ⟨⟨n0, n1, n2⟩, rfl, bounds_i64 w2⟩) h
  exact ⟨l, h1, h2, h3, h4⟩
end Go.Proofs.Ytdihbbpndijdoaa
