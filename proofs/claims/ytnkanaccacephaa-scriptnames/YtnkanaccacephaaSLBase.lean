/- What came in, as the walks ask it: scripts, bytes. -/
import Derived.Test.YtnkanaccacephaaRows
import Derived.Test.YtnkanaccacephaaSWD
import Derived.ProofKit
import Derived.OpenShut
import Derived.SizedLaws
namespace Go.Proofs.Ytnkanaccacephaa
open Go.ChangeShapes Go.WideShapes Go.ChangeAt Go.RowKit

theorem ownK : ownKnob Try.prog.godebug = none := by kernel_rfl
theorem laidOut : laidOutB Try.prog = true := by kernel_rfl
theorem addr_add' (b off j : Nat) : (⟨b, off, none⟩ : Addr).add j = ⟨b, off + j, none⟩ := by
  unfold Addr.add
  split
  · rename_i h; subst h; rfl
  · rfl
theorem flat_at {α : Type} [Inhabited α] (f : α → List Value) (s : Nat) (hfl : ∀ x, (f x).length = s) : ∀ (l : List α) (i r : Nat), i < l.length → r < s → (l.flatMap f)[i * s + r]? = (f (l.getD i default))[r]?
  | x :: t, 0, r, _, hr => by
    rw [List.flatMap_cons, List.getElem?_append_left (by rw [hfl]; omega)]
    simp
  | x :: t, i + 1, r, hi, hr => by
    rw [List.flatMap_cons, List.getElem?_append_right (by rw [hfl, Nat.succ_mul]; omega), hfl, show (i + 1) * s + r - s = i * s + r by rw [Nat.succ_mul]; omega, flat_at f s hfl t i r (by simpa using hi) hr]
    simp
theorem flat_len' {α : Type} (f : α → List Value) (s : Nat) (hfl : ∀ x, (f x).length = s) : ∀ (l : List α), (l.flatMap f).length = l.length * s
  | [] => by simp
  | x :: t => by rw [List.flatMap_cons, List.length_append, hfl, flat_len' f s hfl t, List.length_cons, Nat.succ_mul]; omega
theorem byte_flat : ∀ (l : List Int), (∀ z ∈ l, (Lit.int .u8 z).wf = true) → bCells (l.map Int.toNat) = l.flatMap fun z : Int => [Value.int .u8 z]
  | [], _ => rfl
  | z :: r, h => by
    have h1 := bounds_u8 (h z List.mem_cons_self)
    have h2 := byte_flat r (fun x hx => h x (List.mem_cons_of_mem _ hx))
    simp only [bCells, List.map_cons, List.flatMap_cons, List.singleton_append, List.cons.injEq, Value.int.injEq, true_and] at h2 ⊢
    exact ⟨by omega, h2⟩
section
variable {H : Type} {enc : TypeId × Value → H} {W : World}
theorem raw_slice {α : Type} [Inhabited α] {t e : TypeId} {s fuel : Nat} {cs : List Value} {x : DataW H × List MemPlace} (f : α → List Value) (V : α → Prop) (hs : 0 < s) (hfl : ∀ x, (f x).length = s)
    (ht : Try.prog.underlying t = some (.slice e)) (hc : Try.prog.cellsOf e = s)
    (each : ∀ n cs y, DataW.trod enc Try.prog W 0 (fun _ => true) true n e cs = some y → ∃ x, cs = f x ∧ V x)
    (h : DataW.trod enc Try.prog W 0 (fun _ => true) true fuel t cs = some x) :
    ∃ (a : Option Addr) (l : List α) (cap : Nat), cs = [.slice a l.length cap] ∧ l.length ≤ cap ∧ cap ≤ maxLen ∧ (a = none → cap = 0) ∧ Rd W a (l.flatMap f) ∧ ∀ x ∈ l, V x := by
  rcases DataW.trod_slice ht h with ⟨hcs, hx⟩ | ⟨a', len, cap, elems, rest, n, _, hcs, hx, hb, hl, hm, hlen, hel, _, _⟩
  · exact ⟨none, [], 0, hcs, Nat.le_refl _, Nat.zero_le _, fun _ => rfl, fun j u hj => by simp at hj, fun x hx => by simp at hx⟩
  · rw [hc] at hel
    have one : ∀ i, i < len → ∃ x : α, (∀ r, r < s → W.cell? ((a'.add (i * s)).add r) = (f x)[r]?) ∧ V x := by
      intro i hi
      have h1 := hel i hi
      obtain ⟨y, hy⟩ : ∃ y, elems[i]? = some y := ⟨_, List.getElem?_eq_getElem (by omega)⟩
      rw [hy, Option.bind_eq_some_iff] at h1
      obtain ⟨ds, hd, hd'⟩ := h1
      obtain ⟨z, rfl, hV⟩ := each _ _ _ hd'
      have hcell := (World.cells?_some hd).2.2
      exact ⟨z, fun r hr => hcell r hr, hV⟩
    have all : ∀ k, k ≤ len → ∃ l : List α, l.length = k ∧ (∀ i, i < k → ∀ r, r < s → W.cell? ((a'.add (i * s)).add r) = (f (l.getD i default))[r]?) ∧ ∀ x ∈ l, V x := by
      intro k
      induction k with
      | zero => intro _; exact ⟨[], rfl, fun i hi => absurd hi (Nat.not_lt_zero i), fun x hx => by simp at hx⟩
      | succ k ih =>
        intro hk
        obtain ⟨l, hl', hall, hfit⟩ := ih (by omega)
        obtain ⟨z, hz, hfz⟩ := one k (by omega)
        refine ⟨l ++ [z], by simp [hl'], fun i hi r hr => ?_, fun y hy => ?_⟩
        · by_cases hik : i < k
          · have e : (l ++ [z]).getD i default = l.getD i default := by
              rw [List.getD_eq_getElem?_getD, List.getD_eq_getElem?_getD, List.getElem?_append_left (by omega)]
            rw [e]
            exact hall i hik r hr
          · obtain rfl : i = k := by omega
            have e : (l ++ [z]).getD i default = z := by
              rw [List.getD_eq_getElem?_getD, List.getElem?_append_right (by omega), hl']
              simp
            rw [e]
            exact hz r hr
        · rcases List.mem_append.1 hy with h | h
          · exact hfit y h
          · simp at h; rw [h]; exact hfz
    obtain ⟨l, rfl, hall, hV⟩ := all len (Nat.le_refl _)
    refine ⟨some a', l, cap, hcs, hl, hm, (fun h => by cases h), fun j u hj => ?_, hV⟩
    have hj' : j < l.length * s := by
      have := (List.getElem?_eq_some_iff.1 hj).1
      rwa [flat_len' f s hfl] at this
    have hi : j / s < l.length := Nat.div_lt_of_lt_mul (by rw [Nat.mul_comm]; exact hj')
    have hr : j % s < s := Nat.mod_lt _ hs
    have hjj : j / s * s + j % s = j := by rw [Nat.mul_comm]; exact Nat.div_add_mod j s
    have h2 := hall (j / s) hi (j % s) hr
    rw [← flat_at f s hfl l _ _ hi hr, hjj, hj] at h2
    obtain ⟨b, off, spot⟩ := a'
    have hspot : spot = none := by
      have h3 := hall 0 (Nat.lt_of_le_of_lt (Nat.zero_le _) hi) 0 hs
      rw [List.getElem?_eq_getElem (by rw [hfl]; exact hs)] at h3
      simpa [Addr.add] using World.cell?_spot h3
    subst hspot
    rw [addr_add', addr_add', Nat.add_assoc, hjj] at h2
    exact ⟨b, off, rfl, h2⟩
theorem raw_int {t : TypeId} {k : IntKind} (ht : Try.prog.underlying t = some (.int k)) (n : Nat) (cs : List Value) (y : DataW H × List MemPlace) (h : DataW.trod enc Try.prog W 0 (fun _ => true) true n t cs = some y) :
    ∃ z : Int, cs = [.int k z] ∧ (Lit.int k z).wf = true := by
  obtain ⟨z, e, _, w⟩ := DataW.trod_int ht h
  exact ⟨z, e, w⟩
theorem cInt : Try.prog.cellsOf 3 = 1 := by kernel_rfl
theorem cI64 : Try.prog.cellsOf 2 = 1 := by kernel_rfl
theorem cU8 : Try.prog.cellsOf 5 = 1 := by kernel_rfl
theorem cStep : Try.prog.cellsOf 38 = 3 := by kernel_rfl
def In64 (z : Int) : Prop := -9223372036854775808 ≤ z ∧ z ≤ 9223372036854775807
def FitStp (s : Stp) : Prop := In64 s.k ∧ In64 s.n ∧ FitS s
set_option maxRecDepth 100000 in
theorem raw_step (n : Nat) (cs : List Value) (y : DataW H × List MemPlace) (h : DataW.trod enc Try.prog W 0 (fun _ => true) true n 38 cs = some y) :
    ∃ x : Stp, cs = stC x ∧ FitStp x := by
  obtain ⟨ys, m, _, _, hcl, hyl, hall⟩ := DataW.trod_struct Try.underlying38 h
  rw [cStep] at hcl
  have t0 := hall 0 _ rfl
  have t1 := hall 1 _ rfl
  have t2 := hall 2 _ rfl
  match cs, hcl, ys, hyl with
  | [c0, c1, c2], _, [z0, z1, z2], _ =>
    obtain ⟨n0, e0, _, w0⟩ := DataW.trod_int Try.underlying3 t0
    obtain ⟨n1, e1, _, w1⟩ := DataW.trod_int Try.underlying3 t1
    obtain ⟨n2, e2, _, w2⟩ := DataW.trod_int Try.underlying2 t2
    simp [cInt, cI64] at e0 e1 e2
    subst e0 e1 e2
    exact ⟨⟨n0, n1, n2⟩, rfl, bounds_i64 w0, bounds_i64 w1, bounds_i64 w2⟩
theorem view_steps {a : Option Addr} {len cap : Nat} {d : DataW H} {p : List MemPlace} (h : DataW.Trod enc Try.prog W 0 (fun _ => true) true 23 (.slice a len cap) d p) :
    ∃ l : List Stp, l.length = len ∧ len ≤ cap ∧ cap ≤ maxLen ∧ (a = none → cap = 0) ∧ Rd W a (sCells l) ∧ ∀ s ∈ l, FitStp s := by
  obtain ⟨fuel, hf⟩ := h
  have hf : DataW.trod enc Try.prog W 0 (fun _ => true) true fuel 23 [.slice a len cap] = some (d, p) := hf
  obtain ⟨a0, l0, k0, e0, h1, h2, h3, hr0, hf0⟩ := raw_slice (s := 3) stC FitStp (by decide) (fun _ => rfl) Try.underlying23 cStep raw_step hf
  simp at e0
  obtain ⟨rfl, rfl, rfl⟩ := e0
  exact ⟨l0, rfl, h1, h2, h3, hr0, hf0⟩
/-- Bytes that came in. -/
theorem view_bytes {a : Option Addr} {len cap : Nat} {d : DataW H} {p : List MemPlace} (h : DataW.Trod enc Try.prog W 0 (fun _ => true) true 27 (.slice a len cap) d p) :
    ∃ bs : List Nat, bs.length = len ∧ len ≤ cap ∧ cap ≤ maxLen ∧ (a = none → cap = 0) ∧ Rd W a (bCells bs) ∧ Byte bs := by
  obtain ⟨fuel, hf⟩ := h
  have hf : DataW.trod enc Try.prog W 0 (fun _ => true) true fuel 27 [.slice a len cap] = some (d, p) := hf
  obtain ⟨a0, l0, k0, e0, h1, h2, h3, hr0, hf0⟩ := raw_slice (s := 1) (fun z : Int => [Value.int .u8 z]) (fun z => (Lit.int .u8 z).wf = true) (by decide) (fun _ => rfl) Try.underlying27 cU8 (raw_int Try.underlying5) hf
  simp at e0
  obtain ⟨rfl, rfl, rfl⟩ := e0
  refine ⟨l0.map Int.toNat, by simp, h1, h2, h3, ?_, byte_of_mem fun y hy => ?_⟩
  · have e := byte_flat l0 hf0
    rw [e]; exact hr0
  · obtain ⟨z, hz, rfl⟩ := List.mem_map.1 hy
    have := bounds_u8 (hf0 z hz)
    omega
end
end Go.Proofs.Ytnkanaccacephaa
