/- What came in, as the walks ask it: edges. -/
import Derived.Test.YtcmcapddijpidaaRows
import Derived.Test.YtcmcapddijpidaaGW8
import Derived.ProofKit
import Derived.OpenShut
import Derived.SizedLaws
namespace Go.Proofs.Ytcmcapddijpidaa
open Go.ChangeShapes Go.WideShapes Go.ChangeAt Go.RowKit

theorem ownK : ownKnob Try.prog.godebug = none := by kernel_rfl
theorem laidOut : laidOutB Try.prog = true := by kernel_rfl
theorem addr_add' (b off j : Nat) : (⟨b, off, none⟩ : Addr).add j = ⟨b, off + j, none⟩ := by
  unfold Addr.add
  split
  · rename_i h; subst h; rfl
  · rfl
theorem flat_at {α : Type} [Inhabited α] (f : α → List Value) (s : Nat) (hfl : ∀ x, (f x).length = s) : ∀ (l : List α) (i r : Nat), i < l.length → r < s → (l.flatMap f)[i * s + r]? = (f (l.getD i default))[r]?
  | x :: t, 0, r, _, hr => by
    rw [List.flatMap_cons, List.getElem?_append_left (by rw [hfl]; omega)]
    simp
  | x :: t, i + 1, r, hi, hr => by
    rw [List.flatMap_cons, List.getElem?_append_right (by rw [hfl, Nat.succ_mul]; omega), hfl, show (i + 1) * s + r - s = i * s + r by rw [Nat.succ_mul]; omega, flat_at f s hfl t i r (by simpa using hi) hr]
    simp
theorem flat_len' {α : Type} (f : α → List Value) (s : Nat) (hfl : ∀ x, (f x).length = s) : ∀ (l : List α), (l.flatMap f).length = l.length * s
  | [] => by simp
  | x :: t => by rw [List.flatMap_cons, List.length_append, hfl, flat_len' f s hfl t, List.length_cons, Nat.succ_mul]; omega
section
variable {H : Type} {enc : TypeId × Value → H} {W : World}
theorem raw_slice {α : Type} [Inhabited α] {t e : TypeId} {s fuel : Nat} {cs : List Value} {x : DataW H × List MemPlace} (f : α → List Value) (V : α → Prop) (hs : 0 < s) (hfl : ∀ x, (f x).length = s)
    (ht : Try.prog.underlying t = some (.slice e)) (hc : Try.prog.cellsOf e = s)
    (each : ∀ n cs y, DataW.trod enc Try.prog W 0 (fun _ => true) true n e cs = some y → ∃ x, cs = f x ∧ V x)
    (h : DataW.trod enc Try.prog W 0 (fun _ => true) true fuel t cs = some x) :
    ∃ (a : Option Addr) (l : List α) (cap : Nat), cs = [.slice a l.length cap] ∧ l.length ≤ cap ∧ cap ≤ maxLen ∧ (a = none → cap = 0) ∧ Rd W a (l.flatMap f) ∧ ∀ x ∈ l, V x := by
  rcases DataW.trod_slice ht h with ⟨hcs, hx⟩ | ⟨a', len, cap, elems, rest, n, _, hcs, hx, hb, hl, hm, hlen, hel, _, _⟩
  · exact ⟨none, [], 0, hcs, Nat.le_refl _, Nat.zero_le _, fun _ => rfl, fun j u hj => by simp at hj, fun x hx => by simp at hx⟩
  · rw [hc] at hel
    have one : ∀ i, i < len → ∃ x : α, (∀ r, r < s → W.cell? ((a'.add (i * s)).add r) = (f x)[r]?) ∧ V x := by
      intro i hi
      have h1 := hel i hi
      obtain ⟨y, hy⟩ : ∃ y, elems[i]? = some y := ⟨_, List.getElem?_eq_getElem (by omega)⟩
      rw [hy, Option.bind_eq_some_iff] at h1
      obtain ⟨ds, hd, hd'⟩ := h1
      obtain ⟨z, rfl, hV⟩ := each _ _ _ hd'
      have hcell := (World.cells?_some hd).2.2
      exact ⟨z, fun r hr => hcell r hr, hV⟩
    have all : ∀ k, k ≤ len → ∃ l : List α, l.length = k ∧ (∀ i, i < k → ∀ r, r < s → W.cell? ((a'.add (i * s)).add r) = (f (l.getD i default))[r]?) ∧ ∀ x ∈ l, V x := by
      intro k
      induction k with
      | zero => intro _; exact ⟨[], rfl, fun i hi => absurd hi (Nat.not_lt_zero i), fun x hx => by simp at hx⟩
      | succ k ih =>
        intro hk
        obtain ⟨l, hl', hall, hfit⟩ := ih (by omega)
        obtain ⟨z, hz, hfz⟩ := one k (by omega)
        refine ⟨l ++ [z], by simp [hl'], fun i hi r hr => ?_, fun y hy => ?_⟩
        · by_cases hik : i < k
          · have e : (l ++ [z]).getD i default = l.getD i default := by
              rw [List.getD_eq_getElem?_getD, List.getD_eq_getElem?_getD, List.getElem?_append_left (by omega)]
            rw [e]
            exact hall i hik r hr
          · obtain rfl : i = k := by omega
            have e : (l ++ [z]).getD i default = z := by
              rw [List.getD_eq_getElem?_getD, List.getElem?_append_right (by omega), hl']
              simp
            rw [e]
            exact hz r hr
        · rcases List.mem_append.1 hy with h | h
          · exact hfit y h
          · simp at h; rw [h]; exact hfz
    obtain ⟨l, rfl, hall, hV⟩ := all len (Nat.le_refl _)
    refine ⟨some a', l, cap, hcs, hl, hm, (fun h => by cases h), fun j u hj => ?_, hV⟩
    have hj' : j < l.length * s := by
      have := (List.getElem?_eq_some_iff.1 hj).1
      rwa [flat_len' f s hfl] at this
    have hi : j / s < l.length := Nat.div_lt_of_lt_mul (by rw [Nat.mul_comm]; exact hj')
    have hr : j % s < s := Nat.mod_lt _ hs
    have hjj : j / s * s + j % s = j := by rw [Nat.mul_comm]; exact Nat.div_add_mod j s
    have h2 := hall (j / s) hi (j % s) hr
    rw [← flat_at f s hfl l _ _ hi hr, hjj, hj] at h2
    obtain ⟨b, off, spot⟩ := a'
    have hspot : spot = none := by
      have h3 := hall 0 (Nat.lt_of_le_of_lt (Nat.zero_le _) hi) 0 hs
      rw [List.getElem?_eq_getElem (by rw [hfl]; exact hs)] at h3
      simpa [Addr.add] using World.cell?_spot h3
    subst hspot
    rw [addr_add', addr_add', Nat.add_assoc, hjj] at h2
    exact ⟨b, off, rfl, h2⟩
theorem cEdge : Try.prog.cellsOf 24 = 2 := by kernel_rfl
theorem cInt : Try.prog.cellsOf 3 = 1 := by kernel_rfl
def FitP (x : Int × Int) : Prop := Fit64 x.1 ∧ Fit64 x.2
theorem raw_edge (n : Nat) (cs : List Value) (y : DataW H × List MemPlace) (h : DataW.trod enc Try.prog W 0 (fun _ => true) true n 24 cs = some y) :
    ∃ x : Int × Int, cs = wP x ∧ FitP x := by
  obtain ⟨xs, k, _, _, hcl, hl, hel⟩ := DataW.trod_array Try.underlying24 h
  rw [cEdge] at hcl
  rw [cInt] at hel
  match cs, hcl, xs, hl with
  | [c0, c1], _, [z0, z1], _ =>
    obtain ⟨m0, q0, _, s0⟩ := DataW.trod_int Try.underlying3 (hel 0 (by omega))
    obtain ⟨m1, q1, _, s1⟩ := DataW.trod_int Try.underlying3 (hel 1 (by omega))
    simp at q0 q1
    subst q0 q1
    exact ⟨(m0, m1), rfl, bounds_i64 s0, bounds_i64 s1⟩
theorem view_edges {a : Option Addr} {len cap : Nat} {d : DataW H} {p : List MemPlace} (h : DataW.Trod enc Try.prog W 0 (fun _ => true) true 23 (.slice a len cap) d p) :
    ∃ l : Es, l.length = len ∧ len ≤ cap ∧ cap ≤ maxLen ∧ (a = none → cap = 0) ∧ Rd W a (wC l) ∧ FitE l := by
  obtain ⟨fuel, hf⟩ := h
  have hf : DataW.trod enc Try.prog W 0 (fun _ => true) true fuel 23 [.slice a len cap] = some (d, p) := hf
  obtain ⟨a0, l0, k0, e0, h1, h2, h3, hr0, hf0⟩ := raw_slice (s := 2) wP FitP (by decide) (fun _ => rfl) Try.underlying23 cEdge raw_edge hf
  simp at e0
  obtain ⟨rfl, rfl, rfl⟩ := e0
  exact ⟨l0, rfl, h1, h2, h3, hr0, hf0⟩
end
end Go.Proofs.Ytcmcapddijpidaa
