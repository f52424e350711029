/- Plain arithmetic of slots, second part: there is a gap; rows of ticks without a slot. -/
import Derived.Test.YtcececjnndhalaaM1
namespace Go.Proofs.Ytcececjnndhalaa

theorem first_slot (l : List Int) (p : Int) (f : Nat) : ∀ n, (∃ j, j < n ∧ ownN l (f + j) = p) → ∃ i, i < n ∧ (∀ j, j < i → ownN l (f + j) ≠ p) ∧ ownN l (f + i) = p
  | 0, ⟨j, hj, _⟩ => absurd hj (Nat.not_lt_zero j)
  | n + 1, ⟨j, hj, e⟩ => by
    by_cases h : ∃ j, j < n ∧ ownN l (f + j) = p
    · obtain ⟨i, hi, h1, h2⟩ := first_slot l p f n h
      exact ⟨i, by omega, h1, h2⟩
    · by_cases ej : j = n
      · subst ej
        exact ⟨j, by omega, fun x hx ex => h ⟨x, hx, ex⟩, e⟩
      · exact absurd ⟨j, by omega, e⟩ h

theorem slot_in_round {l : List Int} {p : Int} (hp : 0 < l.length) (hc : 0 < cnt l p) (f : Nat) : ∃ j, j < l.length ∧ ownN l (f + j) = p := by
  apply some_of_ahead l p hp
  have := ahead_round l p hp f 1
  rw [Nat.one_mul, Nat.one_mul] at this
  omega

theorem gapTo_some {l : List Int} {p : Int} (hp : 0 < l.length) (hc : 0 < cnt l p) : ∀ f, ∃ g, GapTo l p f g
  | 0 => ⟨0, GapTo.start l p⟩
  | f + 1 => by
    obtain ⟨g, hg⟩ := gapTo_some hp hc f
    obtain ⟨i, hi, h1, h2⟩ := first_slot l p f l.length (slot_in_round hp hc f)
    exact ⟨_, hg.next hi h1 h2⟩

theorem isGap_some {l : List Int} (p : Int) (hp : 0 < l.length) : ∃ g, IsGap l p g := by
  rcases Nat.eq_zero_or_pos (cnt l p) with hc | hc
  · exact ⟨0, .inl ⟨rfl, hc⟩⟩
  · obtain ⟨g, hg⟩ := gapTo_some hp hc l.length
    exact ⟨g, hg.done hp⟩

/-- From the tick F on, up to the tick t: the last row without a slot, and the longest one. -/
structure RunInv (l : List Int) (p : Int) (F t row L : Nat) : Prop where
  ft : F ≤ t
  le : row ≤ L
  fit : F + L ≤ t
  free : ∀ j, j < row → ownN l (t - row + j) ≠ p
  max : F + row = t ∨ (F + row < t ∧ ownN l (t - row - 1) = p)
  some : ∃ f, F ≤ f ∧ f + L ≤ t ∧ ∀ j, j < L → ownN l (f + j) ≠ p
  all : ∀ f m, F ≤ f → f + m ≤ t → (∀ j, j < m → ownN l (f + j) ≠ p) → m ≤ L

theorem RunInv.start (l : List Int) (p : Int) (F : Nat) : RunInv l p F F 0 0 where
  ft := Nat.le_refl _
  le := Nat.le_refl _
  fit := Nat.le_refl _
  free := fun j hj => absurd hj (Nat.not_lt_zero j)
  max := .inl rfl
  some := ⟨F, Nat.le_refl _, Nat.le_refl _, fun j hj => absurd hj (Nat.not_lt_zero j)⟩
  all := fun f m h1 h2 _ => by omega

theorem RunInv.yes {l : List Int} {p : Int} {F t row L : Nat} (h : RunInv l p F t row L) (e : ownN l t = p) : RunInv l p F (t + 1) 0 L where
  ft := by have := h.ft; omega
  le := Nat.zero_le _
  fit := by have := h.fit; omega
  free := fun j hj => absurd hj (Nat.not_lt_zero j)
  max := .inr ⟨by have := h.ft; omega, by simpa using e⟩
  some := by
    obtain ⟨f, h1, h2, h3⟩ := h.some
    exact ⟨f, h1, by omega, h3⟩
  all := fun f m h1 h2 h3 => by
    by_cases hx : f + m ≤ t
    · exact h.all f m h1 hx h3
    · have hm : 0 < m ∨ m = 0 := by omega
      rcases hm with hm | hm
      · have := h3 (m - 1) (by omega)
        rw [show f + (m - 1) = t by omega] at this
        exact absurd e this
      · omega

theorem RunInv.no {l : List Int} {p : Int} {F t row L : Nat} (h : RunInv l p F t row L) (e : ownN l t ≠ p) : RunInv l p F (t + 1) (row + 1) (Max.max L (row + 1)) where
  ft := by have := h.ft; omega
  le := by omega
  fit := by
    have := h.fit
    have := h.max
    omega
  free := fun j hj => by
    have hr : row ≤ t := by have := h.max; omega
    by_cases hx : j < row
    · have := h.free j hx
      rw [show t + 1 - (row + 1) + j = t - row + j by omega]
      exact this
    · rw [show t + 1 - (row + 1) + j = t by omega]
      exact e
  max := by
    rcases h.max with hm | ⟨hm, hq⟩
    · exact .inl (by omega)
    · exact .inr ⟨by omega, by rw [show t + 1 - (row + 1) - 1 = t - row - 1 by omega]; exact hq⟩
  some := by
    by_cases hx : row + 1 ≤ L
    · obtain ⟨f, h1, h2, h3⟩ := h.some
      rw [Nat.max_eq_left hx]
      exact ⟨f, h1, by omega, h3⟩
    · have hr : F + row ≤ t := by have := h.max; omega
      rw [Nat.max_eq_right (by omega)]
      refine ⟨t - row, by omega, by omega, fun j hj => ?_⟩
      by_cases hy : j < row
      · exact h.free j hy
      · rw [show t - row + j = t by omega]
        exact e
  all := fun f m h1 h2 h3 => by
    by_cases hx : f + m ≤ t
    · have := h.all f m h1 hx h3
      omega
    · rcases h.max with hm | ⟨hm, hq⟩
      · omega
      · by_cases hy : f ≤ t - row - 1
        · have := h3 (t - row - 1 - f) (by omega)
          rw [show f + (t - row - 1 - f) = t - row - 1 by omega] at this
          exact absurd hq this
        · omega

theorem RunInv.done {l : List Int} {p : Int} {F row L G : Nat} (hp : 0 < l.length) (h : RunInv l p F (F + 3 * l.length) row L) (hG : IsGap l p G) (h0 : 0 < G) : L + 1 = G := by
  rcases hG with ⟨h1, _⟩ | ⟨hc, _, hk, ha, f0, hf0⟩
  · omega
  · have hup : L < G := by
      obtain ⟨f, h1, h2, h3⟩ := h.some
      obtain ⟨j, hj, e⟩ := ha f
      rcases Nat.lt_or_ge L G with hx | hx
      · exact hx
      · exact absurd e (h3 j (by omega))
    have hm := Nat.mod_lt f0 hp
    have hd := Nat.div_add_mod F l.length
    have hF := Nat.mod_lt F hp
    have e1 : (F / l.length + 1) * l.length = l.length * (F / l.length) + l.length := by rw [Nat.add_mul, Nat.mul_comm, Nat.one_mul]
    have := h.all (f0 % l.length + (F / l.length + 1) * l.length) (G - 1) (by omega) (by omega) (fun j hj => by
      have e2 : f0 % l.length + (F / l.length + 1) * l.length + j = f0 % l.length + j + (F / l.length + 1) * l.length := by omega
      rw [e2, ownN_round, ownN_shift]
      exact hf0 j (by omega))
    omega

end Go.Proofs.Ytcececjnndhalaa
