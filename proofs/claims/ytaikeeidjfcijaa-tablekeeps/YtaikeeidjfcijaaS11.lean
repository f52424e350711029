/- What a round of the sort leaves to be done: no Go in sight. -/
import Derived.Test.YtaikeeidjfcijaaS10
namespace Go.Proofs.Ytaikeeidjfcijaa
open Go.Sort

theorem lt_no {x y : Nat} : ltN x y = false ↔ y ≤ x := by simp [ltN]
theorem lt_yes {x y : Nat} : ltN x y = true ↔ x < y := by simp [ltN]
theorem swoN : SWO ltN where
  irrefl := fun x => by rw [lt_no]; exact Nat.le_refl _
  trans := fun x y z h1 h2 => by rw [lt_yes] at *; omega
  ntrans := fun x y z h1 h2 => by rw [lt_no] at *; omega

/-- Once a ≤ i < b is in order, all is. -/
def Ends (A B a b : Nat) (d dk : Array Nat) : Prop := ∀ d', PermIn a b dk d' → SortedIn ltN a b d' → PermIn A B d d' ∧ SortedIn ltN A B d'

theorem ends_perm {A B a b : Nat} {d dk d1 : Array Nat} (h : Ends A B a b d dk) (hp : PermIn a b dk d1) : Ends A B a b d d1 := fun d' h1 h2 => h d' (permIn_trans _ _ _ _ _ hp h1) h2

theorem below_perm {a b : Nat} {dk d1 : Array Nat} (h : Sort.Below ltN a b dk) (hp : PermIn a b dk d1) (hb : b ≤ dk.size) : Sort.Below ltN a b d1 := by
  rcases Nat.eq_zero_or_pos a with h0 | h0
  · exact .inl h0
  rcases h with h | h
  · exact .inl h
  · right
    have e : d1[a - 1]! = dk[a - 1]! := hp.2.1 (a - 1) (.inl (by omega))
    rw [e]
    exact permIn_all dk d1 a b (fun x => ltN x dk[a - 1]! = false) hb hp h

section
variable {A B a b mid : Nat} {d dk d4 d5 : Array Nat}

theorem ends_eq (hE : Ends A B a b d dk) (hp : PermIn a b dk d4) (hb : b ≤ d4.size) (h1 : a < mid) (_h2 : mid ≤ b) {pv : Nat} (hmin : ∀ i, a ≤ i → i < b → pv ≤ d4[i]!) (hl : ∀ i, a ≤ i → i < mid → d4[i]! ≤ pv) (hr : ∀ i, mid ≤ i → i < b → pv < d4[i]!) :
    Ends A B mid b d d4 ∧ Sort.Below ltN mid b d4 := by
  refine ⟨fun d' h3 h4 => ?_, .inr fun i hi hib => ?_⟩
  · have hall := permIn_all d4 d' mid b (fun x => pv < x) hb h3 hr
    refine hE d' (permIn_trans _ _ _ _ _ hp (permIn_mono _ _ _ _ _ _ (by omega) (Nat.le_refl _) hb h3)) fun i j hi hij hj => ?_
    rw [lt_no]
    by_cases him : mid ≤ i
    · exact lt_no.1 (h4 i j him hij hj)
    · have ei : d'[i]! = d4[i]! := h3.2.1 i (.inl (by omega))
      have li := hl i hi (by omega)
      rw [ei]
      by_cases hjm : mid ≤ j
      · have := hall j hjm hj
        omega
      · have ej : d'[j]! = d4[j]! := h3.2.1 j (.inl (by omega))
        have := hmin j (by omega) hj
        rw [ej]
        omega
  · rw [lt_no]
    have h5 := hl (mid - 1) (by omega) (by omega)
    have h6 := hr i hi hib
    omega


theorem pre_left (hB : Sort.Below ltN a b d4) (h2 : mid < b) : Sort.Below ltN a mid d4 := by
  rcases hB with h | h
  · exact .inl h
  · exact .inr fun i hi him => h i hi (by omega)
theorem pre_right (hr : ∀ i, mid < i → i < b → d4[mid]! ≤ d4[i]!) : Sort.Below ltN (mid + 1) b d4 :=
  .inr fun i hi hib => by rw [lt_no, Nat.add_sub_cancel]; exact hr i (by omega) hib

theorem whole (hb : b ≤ d4.size) (h1 : a ≤ mid) (h2 : mid < b) (hl : ∀ i, a ≤ i → i < mid → d4[i]! < d4[mid]!) (hr : ∀ i, mid < i → i < b → d4[mid]! ≤ d4[i]!) {d6 : Array Nat}
    (p1 : PermIn a mid d4 d5) (s1 : SortedIn ltN a mid d5) (p2 : PermIn (mid + 1) b d5 d6) (s2 : SortedIn ltN (mid + 1) b d6) : PermIn a b d4 d6 ∧ SortedIn ltN a b d6 := by
  have z5 : d5.size = d4.size := p1.1
  have L5 := permIn_all d4 d5 a mid (fun x => x < d4[mid]!) (by omega) p1 hl
  have R5 : ∀ i, mid + 1 ≤ i → i < b → d4[mid]! ≤ d5[i]! := fun i hi hib => by
    rw [p1.2.1 i (.inr (by omega))]; exact hr i (by omega) hib
  have R6 := permIn_all d5 d6 (mid + 1) b (fun x => d4[mid]! ≤ x) (by omega) p2 R5
  have M6 : d6[mid]! = d4[mid]! := (p2.2.1 mid (.inl (by omega))).trans (p1.2.1 mid (.inr (Nat.le_refl _)))
  have L6 : ∀ i, i ≤ mid → d6[i]! = d5[i]! := fun i hi => p2.2.1 i (.inl (by omega))
  refine ⟨permIn_trans _ _ _ _ _ (permIn_mono _ _ _ _ _ _ (Nat.le_refl _) (by omega) hb p1) (permIn_mono _ _ _ _ _ _ (by omega) (Nat.le_refl _) (by omega) p2), fun i j hi hij hj => ?_⟩
  rw [lt_no]
  rcases Nat.lt_trichotomy i mid with him | him | him
  · have li := L5 i hi him
    rw [L6 i (by omega)]
    rcases Nat.lt_trichotomy j mid with hjm | hjm | hjm
    · rw [L6 j (by omega)]; exact lt_no.1 (s1 i j hi hij hjm)
    · subst hjm; rw [M6]; omega
    · have := R6 j (by omega) hj; omega
  · subst him
    rw [M6]
    exact R6 j (by omega) hj
  · exact lt_no.1 (s2 i j (by omega) hij hj)

/-- The left part first. -/
theorem ends_left (hE : Ends A B a b d dk) (hp : PermIn a b dk d4) (hb : b ≤ d4.size) (h1 : a ≤ mid) (h2 : mid < b) (hl : ∀ i, a ≤ i → i < mid → d4[i]! < d4[mid]!) (hr : ∀ i, mid < i → i < b → d4[mid]! ≤ d4[i]!) (p1 : PermIn a mid d4 d5) (s1 : SortedIn ltN a mid d5) :
    Ends A B (mid + 1) b d d5 ∧ Sort.Below ltN (mid + 1) b d5 := by
  refine ⟨fun d6 p2 s2 => ?_, .inr fun i hi hib => ?_⟩
  · obtain ⟨q1, q2⟩ := whole hb h1 h2 hl hr p1 s1 p2 s2
    exact hE d6 (permIn_trans _ _ _ _ _ hp q1) q2
  · rw [lt_no, Nat.add_sub_cancel, p1.2.1 mid (.inr (Nat.le_refl _)), p1.2.1 i (.inr (by omega))]
    exact hr i (by omega) hib

/-- The right part first. -/
theorem ends_right (hE : Ends A B a b d dk) (hp : PermIn a b dk d4) (hb : b ≤ d4.size) (h1 : a ≤ mid) (h2 : mid < b) (hl : ∀ i, a ≤ i → i < mid → d4[i]! < d4[mid]!) (hr : ∀ i, mid < i → i < b → d4[mid]! ≤ d4[i]!) (hB : Sort.Below ltN a b d4) (p1 : PermIn (mid + 1) b d4 d5) (s1 : SortedIn ltN (mid + 1) b d5) :
    Ends A B a mid d d5 ∧ Sort.Below ltN a mid d5 := by
  have z5 : d5.size = d4.size := p1.1
  have R5 := permIn_all d4 d5 (mid + 1) b (fun x => d4[mid]! ≤ x) hb p1 (fun i hi hib => hr i (by omega) hib)
  have O5 : ∀ i, i ≤ mid → d5[i]! = d4[i]! := fun i hi => p1.2.1 i (.inl (by omega))
  refine ⟨fun d6 p2 s2 => ?_, ?_⟩
  · have L6 := permIn_all d5 d6 a mid (fun x => x < d4[mid]!) (by omega) p2 (fun i hi him => by rw [O5 i (by omega)]; exact hl i hi him)
    have U6 : ∀ i, mid ≤ i → d6[i]! = d5[i]! := fun i hi => p2.2.1 i (.inr hi)
    have M6 : d6[mid]! = d4[mid]! := (U6 mid (Nat.le_refl _)).trans (O5 mid (Nat.le_refl _))
    refine hE d6 (permIn_trans _ _ _ _ _ hp (permIn_trans _ _ _ _ _ (permIn_mono _ _ _ _ _ _ (by omega) (Nat.le_refl _) hb p1) (permIn_mono _ _ _ _ _ _ (Nat.le_refl _) (by omega) (by omega) p2))) fun i j hi hij hj => ?_
    rw [lt_no]
    rcases Nat.lt_trichotomy i mid with him | him | him
    · have li := L6 i hi him
      rcases Nat.lt_trichotomy j mid with hjm | hjm | hjm
      · exact lt_no.1 (s2 i j hi hij hjm)
      · subst hjm; rw [M6]; omega
      · rw [U6 j (by omega)]; have := R5 j (by omega) hj; omega
    · subst him
      rw [M6, U6 j (by omega)]
      exact R5 j (by omega) hj
    · rw [U6 i (by omega), U6 j (by omega)]
      exact lt_no.1 (s1 i j (by omega) hij hj)
  · rcases hB with h | h
    · exact .inl h
    · by_cases h0 : a = 0
      · exact .inl h0
      · exact .inr fun i hi him => by
          rw [O5 i (by omega), O5 (a - 1) (by omega)]
          exact h i hi (by omega)
end
end Go.Proofs.Ytaikeeidjfcijaa
