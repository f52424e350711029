/- slices.Compact of a row of labels that is in order. -/
import Derived.Test.YtaikeeidjfcijaaS13
import Derived.Test.YtaikeeidjfcijaaM2
import Derived.Sort.Row
namespace Go.Proofs.Ytaikeeidjfcijaa
open Go.RowKit Go.Sort

/-- One label is written. -/
theorem Now.put {w w' : World} {g n cap : Nat} {d : Array Nat} (h : Now w g n cap d w') (j x : Nat) : Now w g n cap (d.setIfInBounds j x) (w'.setCell ⟨g, j, none⟩ (.int .u64 (x : Nat))) := by
  have h1 := h.row.own.stored j (.int .u64 (x : Nat))
  refine ⟨⟨by rw [Array.size_setIfInBounds]; exact h.row.size, ?_⟩, grownBy_trans h.grown h1.2, h.lt⟩
  have e : (labCells d.toList).set j (.int .u64 (x : Nat)) = labCells (d.setIfInBounds j x).toList := by
    simp only [labCells, Array.toList_setIfInBounds, List.map_set]
  rw [← e]
  exact h1.1

/-- The rest is cleared. -/
theorem Now.clear {w : World} {g n cap : Nat} : ∀ (m o : Nat) (d : Array Nat) (w' : World), Now w g n cap d w' → ∃ d', Now w g n cap d' (w'.setCells g o (List.replicate m (.int .u64 0))) ∧ ∀ t, t < o → d'[t]! = d[t]! := by
  intro m
  induction m with
  | zero => intro o d w' h; exact ⟨d, h, fun _ _ => rfl⟩
  | succ m ih =>
    intro o d w' h
    obtain ⟨d', h1, h2⟩ := ih (o + 1) _ _ (h.put o 0)
    refine ⟨d', h1, fun t ht => ?_⟩
    rw [h2 t (by omega), getElem!_set_other d o t 0 (by omega)]

/-- The first k of dk rise. -/
def Strict (dk : Array Nat) (k : Nat) : Prop := ∀ i j, i < j → j < k → dk[i]! < dk[j]!
/-- The labels of the first k of dk are those of the first j of d. -/
def Same (dk : Array Nat) (k : Nat) (d : Array Nat) (j : Nat) : Prop := ∀ x, (∃ t, t < k ∧ dk[t]! = x) ↔ ∃ t, t < j ∧ d[t]! = x

theorem canon_of {d dk : Array Nat} {k : Nat} (hk : k ≤ dk.size) (h1 : Strict dk k) (h2 : Same dk k d d.size) : IsCanon d.toList (dk.toList.take k) := by
  have get : ∀ (a : Array Nat) (t : Nat) (h : t < a.size), a.toList[t]'(by simpa using h) = a[t]! := fun a t h => by simp [h]
  refine ⟨?_, fun x => ?_⟩
  · rw [List.pairwise_iff_getElem]
    intro i j hi hj hij
    simp only [List.length_take, Array.length_toList] at hi hj
    rw [List.getElem_take, List.getElem_take, get dk i (by omega), get dk j (by omega)]
    exact h1 i j hij (by omega)
  · rw [List.mem_take_iff_getElem, List.mem_iff_getElem]
    constructor
    · rintro ⟨t, ht, e⟩
      simp only [Array.length_toList] at ht
      rw [get dk t (by omega)] at e
      obtain ⟨s, hs, es⟩ := (h2 x).1 ⟨t, by omega, e⟩
      exact ⟨s, by simpa using hs, by rw [get d s hs]; exact es⟩
    · rintro ⟨s, hs, es⟩
      have hs' : s < d.size := by simpa using hs
      rw [get d s hs'] at es
      obtain ⟨t, ht, e⟩ := (h2 x).2 ⟨s, hs', es⟩
      exact ⟨t, by simp; omega, by rw [get dk t (by omega)]; exact e⟩

/-- Where the rest is gone through: j is read next, k written next. -/
structure Comp (d dk : Array Nat) (n k j : Nat) : Prop where
  kj : k + 1 ≤ j
  k1 : 1 ≤ k
  jn : j ≤ n
  strict : Strict dk k
  same : Same dk k d j
  last : dk[k - 1]! = d[j - 1]!
  rest : ∀ t, j ≤ t + 1 → t < n → dk[t]! = d[t]!

theorem comp_start {d : Array Nat} {n k : Nat} (h1 : 1 ≤ k) (hk : k < n) (hs : Strict d k) (he : d[k]! = d[k - 1]!) : Comp d d n k (k + 1) where
  kj := Nat.le_refl _
  k1 := h1
  jn := by omega
  strict := hs
  same := fun x => by
    constructor
    · rintro ⟨t, ht, e⟩; exact ⟨t, by omega, e⟩
    · rintro ⟨t, ht, e⟩
      by_cases htk : t = k
      · subst htk; exact ⟨t - 1, by omega, by rw [← he]; exact e⟩
      · exact ⟨t, by omega, e⟩
  last := by rw [Nat.add_sub_cancel]; exact he.symm
  rest := fun _ _ _ => rfl

theorem comp_same {d dk : Array Nat} {n k j : Nat} (h : Comp d dk n k j) (hj : j < n) (he : d[j]! = d[j - 1]!) : Comp d dk n k (j + 1) where
  kj := by have := h.kj; omega
  k1 := h.k1
  jn := by omega
  strict := h.strict
  same := fun x => by
    rw [h.same x]
    constructor
    · rintro ⟨t, ht, e⟩; exact ⟨t, by omega, e⟩
    · rintro ⟨t, ht, e⟩
      by_cases htj : t = j
      · subst htj; exact ⟨t - 1, by have := h.kj; omega, by rw [← he]; exact e⟩
      · exact ⟨t, by omega, e⟩
  last := by rw [Nat.add_sub_cancel, he]; exact h.last
  rest := fun t ht htn => h.rest t (by omega) htn

theorem comp_put {d dk : Array Nat} {n k j : Nat} (h : Comp d dk n k j) (hz : dk.size = n) (hj : j < n) (hlt : d[j - 1]! < d[j]!) : Comp d (dk.setIfInBounds k d[j]!) n (k + 1) (j + 1) := by
  have hkj := h.kj
  have same : (dk.setIfInBounds k d[j]!)[k]! = d[j]! := getElem!_set_same dk k _ (by omega)
  have other : ∀ t, t ≠ k → (dk.setIfInBounds k d[j]!)[t]! = dk[t]! := fun t ht => getElem!_set_other dk k t _ ht
  refine ⟨by omega, by omega, by omega, fun a b hab hb => ?_, fun x => ?_, ?_, fun t ht htn => ?_⟩
  · by_cases hbk : b = k
    · subst hbk
      rw [same, other a (by omega)]
      have hl := h.last
      by_cases hak : a = b - 1
      · rw [hak, hl]; exact hlt
      · have := h.strict a (b - 1) (by omega) (by omega)
        omega
    · rw [other a (by omega), other b hbk]
      exact h.strict a b hab (by omega)
  · constructor
    · rintro ⟨t, ht, e⟩
      by_cases htk : t = k
      · subst htk; rw [same] at e; exact ⟨j, by omega, e⟩
      · rw [other t htk] at e
        obtain ⟨s, hs, es⟩ := (h.same x).1 ⟨t, by omega, e⟩
        exact ⟨s, by omega, es⟩
    · rintro ⟨t, ht, e⟩
      by_cases htj : t = j
      · subst htj; exact ⟨k, by omega, by rw [same]; exact e⟩
      · obtain ⟨s, hs, es⟩ := (h.same x).2 ⟨t, by omega, e⟩
        exact ⟨s, by omega, by rw [other s (by omega)]; exact es⟩
  · rw [Nat.add_sub_cancel, Nat.add_sub_cancel, same]
  · rw [other t (by omega)]
    exact h.rest t (by omega) htn

theorem strict_keep {dk d' : Array Nat} {k : Nat} (h : ∀ t, t < k → d'[t]! = dk[t]!) (hs : Strict dk k) : Strict d' k := fun i j hij hj => by rw [h i (by omega), h j hj]; exact hs i j hij hj
theorem same_keep {dk d' d : Array Nat} {k j : Nat} (h : ∀ t, t < k → d'[t]! = dk[t]!) (hs : Same dk k d j) : Same d' k d j := fun x => by
  rw [← hs x]
  constructor
  · rintro ⟨t, ht, e⟩; exact ⟨t, ht, by rw [← h t ht]; exact e⟩
  · rintro ⟨t, ht, e⟩; exact ⟨t, ht, by rw [h t ht]; exact e⟩
end Go.Proofs.Ytaikeeidjfcijaa
