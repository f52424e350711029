/- Plain arithmetic of slots: no Go in sight. -/
import Derived.Laws.BitsAllLaws
namespace Go.Proofs.Ytcececjnndhalaa

/-- How many of a list are p. -/
def cnt : List Int → Int → Nat
  | [], _ => 0
  | x :: r, p => (if x = p then 1 else 0) + cnt r p

theorem cnt_append (l m : List Int) (p : Int) : cnt (l ++ m) p = cnt l p + cnt m p := by
  induction l with
  | nil => simp [cnt]
  | cons x r ih => simp only [List.cons_append, cnt, ih]; omega

theorem take_succ_getD (l : List Int) (k : Nat) (h : k < l.length) : l.take (k + 1) = l.take k ++ [l.getD k 0] := by
  rw [List.take_add_one]
  simp [List.getElem?_eq_getElem h]

theorem cnt_take_succ (l : List Int) (p : Int) (k : Nat) (h : k < l.length) : cnt (l.take (k + 1)) p = cnt (l.take k) p + (if l.getD k 0 = p then 1 else 0) := by
  rw [take_succ_getD l k h, cnt_append]
  simp [cnt]

theorem cnt_le (l : List Int) (p : Int) : cnt l p ≤ l.length := by
  induction l with
  | nil => simp [cnt]
  | cons x r ih => simp only [cnt, List.length_cons]; split <;> omega

theorem cnt_take_le (l : List Int) (p : Int) (k : Nat) : cnt (l.take k) p ≤ k := by
  have := cnt_le (l.take k) p
  rw [List.length_take] at this
  omega

theorem cnt_take_all (l : List Int) (p : Int) : cnt (l.take l.length) p = cnt l p := by rw [List.take_length]

theorem cnt_take_mono (l : List Int) (p : Int) (j k : Nat) (h : j ≤ k) : cnt (l.take j) p ≤ cnt (l.take k) p := by
  induction k with
  | zero => have : j = 0 := by omega
            subst this; exact Nat.le_refl _
  | succ k ih =>
    by_cases e : j = k + 1
    · subst e; exact Nat.le_refl _
    · have := ih (by omega)
      by_cases hk : k < l.length
      · rw [cnt_take_succ l p k hk]; omega
      · have e1 : l.take (k + 1) = l := List.take_of_length_le (by omega)
        have e2 : l.take k = l := List.take_of_length_le (by omega)
        rw [e2] at this
        rw [e1]; exact this

/-- Whose slot the tick t is. -/
def ownN (l : List Int) (t : Nat) : Int := l.getD (t % l.length) 0

/-- How many slots of p lie ahead of the tick t. -/
def ahead (l : List Int) (p : Int) (t : Nat) : Nat := t / l.length * cnt l p + cnt (l.take (t % l.length)) p

theorem ahead_zero (l : List Int) (p : Int) : ahead l p 0 = 0 := by simp [ahead, cnt]

theorem ahead_succ (l : List Int) (p : Int) (t : Nat) (h : 0 < l.length) : ahead l p (t + 1) = ahead l p t + (if ownN l t = p then 1 else 0) := by
  have hm := Nat.mod_lt t h
  have hd := Nat.div_add_mod t l.length
  unfold ahead ownN
  by_cases e : t % l.length + 1 = l.length
  · have h1 : (t + 1) % l.length = 0 := by
      have : t + 1 = l.length * (t / l.length + 1) := by rw [Nat.mul_add]; omega
      rw [this]; exact Nat.mul_mod_right _ _
    have h2 : (t + 1) / l.length = t / l.length + 1 := by
      have : t + 1 = l.length * (t / l.length + 1) := by rw [Nat.mul_add]; omega
      rw [this]; exact Nat.mul_div_cancel_left _ h
    rw [h1, h2, Nat.add_mul]
    have := cnt_take_succ l p (t % l.length) hm
    rw [e, cnt_take_all] at this
    simp only [List.take_zero, cnt]
    omega
  · have h1 : (t + 1) % l.length = t % l.length + 1 := by
      have : t + 1 = t % l.length + 1 + l.length * (t / l.length) := by omega
      rw [this, Nat.add_mul_mod_self_left]
      exact Nat.mod_eq_of_lt (by omega)
    have h2 : (t + 1) / l.length = t / l.length := by
      have : t + 1 = t % l.length + 1 + l.length * (t / l.length) := by omega
      rw [this, Nat.add_mul_div_left _ _ h, Nat.div_eq_of_lt (by omega), Nat.zero_add]
    rw [h1, h2, cnt_take_succ l p _ hm]
    omega

theorem ahead_mono (l : List Int) (p : Int) (h : 0 < l.length) (a b : Nat) (hab : a ≤ b) : ahead l p a ≤ ahead l p b := by
  induction b with
  | zero => have : a = 0 := by omega
            subst this; exact Nat.le_refl _
  | succ b ih =>
    by_cases e : a = b + 1
    · subst e; exact Nat.le_refl _
    · have := ih (by omega)
      rw [ahead_succ l p b h]; omega

theorem ahead_slow (l : List Int) (p : Int) (h : 0 < l.length) (a b : Nat) (hab : a ≤ b) : ahead l p b + a ≤ ahead l p a + b := by
  induction b with
  | zero => have : a = 0 := by omega
            subst this; exact Nat.le_refl _
  | succ b ih =>
    by_cases e : a = b + 1
    · subst e; exact Nat.le_refl _
    · have := ih (by omega)
      rw [ahead_succ l p b h]; split <;> omega

theorem ahead_le (l : List Int) (p : Int) (h : 0 < l.length) (t : Nat) : ahead l p t ≤ t := by
  have := ahead_slow l p h 0 t (Nat.zero_le _)
  rw [ahead_zero] at this
  omega

theorem ahead_part (l : List Int) (p : Int) (h : 0 < l.length) (t : Nat) : t / l.length * cnt l p ≤ t := by
  have := ahead_le l p h t
  unfold ahead at this
  omega

theorem ownN_round (l : List Int) (t m : Nat) : ownN l (t + m * l.length) = ownN l t := by
  unfold ownN; rw [Nat.add_mul_mod_self_right]

theorem ahead_round (l : List Int) (p : Int) (h : 0 < l.length) (t m : Nat) : ahead l p (t + m * l.length) = ahead l p t + m * cnt l p := by
  unfold ahead
  rw [Nat.add_mul_mod_self_right, Nat.add_mul_div_right _ _ h, Nat.add_mul]
  omega

/-- No slot of p among the m ticks from f on: as many lie ahead of their end as ahead of their beginning. -/
theorem ahead_none (l : List Int) (p : Int) (h : 0 < l.length) (f m : Nat) (hn : ∀ j, j < m → ownN l (f + j) ≠ p) : ahead l p (f + m) = ahead l p f := by
  induction m with
  | zero => rfl
  | succ m ih =>
    rw [← Nat.add_assoc, ahead_succ l p _ h, ih (fun j hj => hn j (by omega)), if_neg (hn m (by omega)), Nat.add_zero]

theorem ahead_some (l : List Int) (p : Int) (h : 0 < l.length) (f m j : Nat) (hj : j < m) (e : ownN l (f + j) = p) : ahead l p f < ahead l p (f + m) := by
  have h1 := ahead_mono l p h f (f + j) (by omega)
  have h2 := ahead_succ l p (f + j) h
  rw [if_pos e] at h2
  have h3 := ahead_mono l p h (f + j + 1) (f + m) (by omega)
  omega

theorem none_of_ahead (l : List Int) (p : Int) (h : 0 < l.length) (f m : Nat) (e : ahead l p (f + m) = ahead l p f) : ∀ j, j < m → ownN l (f + j) ≠ p := by
  intro j hj e2
  have := ahead_some l p h f m j hj e2
  omega

theorem some_of_ahead (l : List Int) (p : Int) (h : 0 < l.length) (f m : Nat) (e : ahead l p f < ahead l p (f + m)) : ∃ j, j < m ∧ ownN l (f + j) = p := by
  by_cases hx : ∃ j, j < m ∧ ownN l (f + j) = p
  · exact hx
  · have := ahead_none l p h f m (fun j hj e2 => hx ⟨j, hj, e2⟩)
    omega

theorem cnt_zero_iff (l : List Int) (p : Int) (h : 0 < l.length) : cnt l p = 0 ↔ ∀ t, ownN l t ≠ p := by
  have h0 := ahead_round l p h 0 1
  rw [ahead_zero, Nat.zero_add, Nat.one_mul, Nat.one_mul, Nat.zero_add] at h0
  constructor
  · intro hc t e
    have e' : ownN l (0 + t % l.length) = p := by
      rw [Nat.zero_add]
      have := ownN_round l (t % l.length) (t / l.length)
      rw [Nat.mul_comm, Nat.mod_add_div] at this
      rw [← this]; exact e
    have := ahead_some l p h 0 l.length (t % l.length) (Nat.mod_lt _ h) e'
    rw [ahead_zero, Nat.zero_add] at this
    omega
  · intro hn
    have := ahead_none l p h 0 l.length (fun j _ => hn _)
    rw [ahead_zero, Nat.zero_add] at this
    omega

/-- What Gap tells. -/
def IsGap (l : List Int) (p : Int) (g : Nat) : Prop :=
  (g = 0 ∧ cnt l p = 0) ∨ (0 < cnt l p ∧ 0 < g ∧ g ≤ l.length ∧ (∀ f, ∃ j, j < g ∧ ownN l (f + j) = p) ∧ ∃ f, ∀ j, j + 1 < g → ownN l (f + j) ≠ p)

theorem IsGap.unique {l : List Int} {p : Int} {g g' : Nat} (h : IsGap l p g) (h' : IsGap l p g') : g = g' := by
  rcases h with ⟨rfl, hc⟩ | ⟨hc, h0, hk, ha, f, hf⟩
  · rcases h' with ⟨rfl, _⟩ | ⟨hc', _⟩
    · rfl
    · omega
  · rcases h' with ⟨rfl, hc'⟩ | ⟨hc', h0', hk', ha', f', hf'⟩
    · omega
    · obtain ⟨j, hj, e⟩ := ha f'
      obtain ⟨j', hj', e'⟩ := ha' f
      have h1 : ¬ (j + 1 < g') := fun hx => hf' j hx e
      have h2 : ¬ (j' + 1 < g) := fun hx => hf j' hx e'
      omega

/-- The first ones, so many as there are beginnings looked at. -/
def GapTo (l : List Int) (p : Int) (from' g : Nat) : Prop :=
  g ≤ l.length ∧ (∀ f, f < from' → ∃ j, j < g ∧ ownN l (f + j) = p) ∧ ((g = 0 ∧ from' = 0) ∨ (0 < g ∧ ∃ f, ∀ j, j + 1 < g → ownN l (f + j) ≠ p))

theorem GapTo.start (l : List Int) (p : Int) : GapTo l p 0 0 := ⟨Nat.zero_le _, fun f hf => absurd hf (Nat.not_lt_zero f), .inl ⟨rfl, rfl⟩⟩

theorem GapTo.next {l : List Int} {p : Int} {f g i : Nat} (h : GapTo l p f g) (hi : i < l.length) (hn : ∀ j, j < i → ownN l (f + j) ≠ p) (e : ownN l (f + i) = p) : GapTo l p (f + 1) (max g (i + 1)) := by
  obtain ⟨h1, h2, h3⟩ := h
  refine ⟨by omega, fun f' hf' => ?_, .inr ⟨by omega, ?_⟩⟩
  · by_cases e' : f' = f
    · subst e'; exact ⟨i, by omega, e⟩
    · obtain ⟨j, hj, ej⟩ := h2 f' (by omega)
      exact ⟨j, by omega, ej⟩
  · by_cases hm : i + 1 ≤ g
    · rw [Nat.max_eq_left hm]
      rcases h3 with ⟨h3, _⟩ | ⟨_, h3⟩
      · omega
      · exact h3
    · rw [Nat.max_eq_right (by omega)]
      exact ⟨f, fun j hj => hn j (by omega)⟩

theorem ownN_shift (l : List Int) (f j : Nat) : ownN l (f % l.length + j) = ownN l (f + j) := by
  have := ownN_round l (f % l.length + j) (f / l.length)
  rw [← this]
  congr 1
  have := Nat.mod_add_div f l.length
  rw [Nat.mul_comm] at this
  omega

theorem GapTo.done {l : List Int} {p : Int} {g : Nat} (h : GapTo l p l.length g) (hp : 0 < l.length) : IsGap l p g := by
  obtain ⟨h1, h2, h3⟩ := h
  rcases h3 with ⟨_, h3⟩ | ⟨h0, f, hf⟩
  · omega
  · refine .inr ⟨?_, h0, h1, fun f' => ?_, f, hf⟩
    · obtain ⟨j, _, e⟩ := h2 0 hp
      rcases Nat.eq_zero_or_pos (cnt l p) with hc | hc
      · exact absurd e ((cnt_zero_iff l p hp).1 hc _)
      · exact hc
    · obtain ⟨j, hj, e⟩ := h2 (f' % l.length) (Nat.mod_lt _ hp)
      exact ⟨j, hj, by rw [← ownN_shift]; exact e⟩

theorem isGap_none {l : List Int} {p : Int} {f : Nat} (hp : 0 < l.length) (hn : ∀ j, j < l.length → ownN l (f + j) ≠ p) : IsGap l p 0 := by
  refine .inl ⟨rfl, ?_⟩
  have h1 := ahead_none l p hp f l.length hn
  have h2 := ahead_round l p hp f 1
  rw [Nat.one_mul, Nat.one_mul] at h2
  omega

/-- The slot number n of p from the tick f on. -/
def IsNth (l : List Int) (p : Int) (f n t : Nat) : Prop := f ≤ t ∧ ownN l t = p ∧ ahead l p t = ahead l p f + n

theorem IsNth.unique {l : List Int} {p : Int} {f n t t' : Nat} (hp : 0 < l.length) (h : IsNth l p f n t) (h' : IsNth l p f n t') : t = t' := by
  obtain ⟨_, e, ha⟩ := h
  obtain ⟨_, e', ha'⟩ := h'
  have s := ahead_succ l p t hp
  have s' := ahead_succ l p t' hp
  rw [if_pos e] at s
  rw [if_pos e'] at s'
  rcases Nat.lt_trichotomy t t' with hx | hx | hx
  · have := ahead_mono l p hp (t + 1) t' hx; omega
  · exact hx
  · have := ahead_mono l p hp (t' + 1) t hx; omega

theorem isNth_of {l : List Int} {p : Int} {f n t : Nat} (hp : 0 < l.length) (e : ownN l t = p) (ha : ahead l p t = ahead l p f + n) : IsNth l p f n t := by
  refine ⟨?_, e, ha⟩
  rcases Nat.lt_or_ge t f with hx | hx
  · have := ahead_mono l p hp (t + 1) f hx
    have s := ahead_succ l p t hp
    rw [if_pos e] at s
    omega
  · exact hx

theorem IsNth.far {l : List Int} {p : Int} {f n t : Nat} (hp : 0 < l.length) (h : IsNth l p f n t) : f + n ≤ t := by
  obtain ⟨h1, _, h3⟩ := h
  have := ahead_slow l p hp f t h1
  omega

/-- The entry of p ahead of which n others stand. -/
def IsPlace (l : List Int) (p : Int) (n q : Nat) : Prop := q < l.length ∧ l.getD q 0 = p ∧ cnt (l.take q) p = n

theorem isPlace_some (l : List Int) (p : Int) (n : Nat) : ∀ k, k ≤ l.length → n < cnt (l.take k) p → ∃ q, q < k ∧ IsPlace l p n q
  | 0, _, h => by simp [cnt] at h
  | k + 1, hk, h => by
    rw [cnt_take_succ l p k (by omega)] at h
    by_cases hn : n < cnt (l.take k) p
    · obtain ⟨q, hq, hp⟩ := isPlace_some l p n k (by omega) hn
      exact ⟨q, by omega, hp⟩
    · by_cases e : l.getD k 0 = p
      · rw [if_pos e] at h
        exact ⟨k, by omega, by omega, e, by omega⟩
      · rw [if_neg e] at h; omega

theorem IsPlace.unique {l : List Int} {p : Int} {n q q' : Nat} (h : IsPlace l p n q) (h' : IsPlace l p n q') : q = q' := by
  obtain ⟨a1, a2, a3⟩ := h
  obtain ⟨b1, b2, b3⟩ := h'
  have s := cnt_take_succ l p q a1
  have s' := cnt_take_succ l p q' b1
  rw [if_pos a2] at s
  rw [if_pos b2] at s'
  rcases Nat.lt_trichotomy q q' with hx | hx | hx
  · have := cnt_take_mono l p (q + 1) q' hx; omega
  · exact hx
  · have := cnt_take_mono l p (q' + 1) q hx; omega

theorem place_nth {l : List Int} {p : Int} {N q : Nat} (hp : 0 < l.length) (hq : IsPlace l p (N % cnt l p) q) :
    ownN l (N / cnt l p * l.length + q) = p ∧ ahead l p (N / cnt l p * l.length + q) = N := by
  obtain ⟨h1, h2, h3⟩ := hq
  have hm : (N / cnt l p * l.length + q) % l.length = q := by
    rw [Nat.add_comm, Nat.add_mul_mod_self_right]; exact Nat.mod_eq_of_lt h1
  have hd : (N / cnt l p * l.length + q) / l.length = N / cnt l p := by
    rw [Nat.add_comm, Nat.add_mul_div_right _ _ hp, Nat.div_eq_of_lt h1, Nat.zero_add]
  refine ⟨by unfold ownN; rw [hm]; exact h2, ?_⟩
  unfold ahead
  rw [hm, hd, h3, Nat.mul_comm]
  exact Nat.div_add_mod N (cnt l p)

theorem isNth_some {l : List Int} {p : Int} (hp : 0 < l.length) (hc : 0 < cnt l p) (f n : Nat) : ∃ t, IsNth l p f n t := by
  obtain ⟨q, _, hq⟩ := isPlace_some l p ((n + ahead l p f) % cnt l p) l.length (Nat.le_refl _) (by rw [cnt_take_all]; exact Nat.mod_lt _ hc)
  have := place_nth hp hq
  exact ⟨_, isNth_of hp this.1 (by rw [this.2]; omega)⟩

/-- Slots of p among ticks: as integers. -/
def countN (l : List Int) (p a b : Int) : Nat := ahead l p b.toNat - ahead l p a.toNat

/-- All partitions below P together. -/
def tot (l : List Int) (t : Nat) : Nat → Nat
  | 0 => 0
  | P + 1 => tot l t P + ahead l (P : Int) t

theorem tot_succ (l : List Int) (t : Nat) (hp : 0 < l.length) (P : Nat) : tot l (t + 1) P = tot l t P + (if 0 ≤ ownN l t ∧ ownN l t < P then 1 else 0) := by
  induction P with
  | zero => simp [tot]
  | succ P ih =>
    simp only [tot, ih, ahead_succ l _ t hp]
    by_cases e : ownN l t = (P : Int)
    · rw [if_pos e, if_neg (by omega), if_pos (by omega)]
      omega
    · rw [if_neg e]
      by_cases h2 : 0 ≤ ownN l t ∧ ownN l t < P
      · rw [if_pos h2, if_pos (by omega)]
        omega
      · rw [if_neg h2, if_neg (by omega)]
        omega

theorem tot_all (l : List Int) (P : Nat) (hp : 0 < l.length) (hw : ∀ i, i < l.length → 0 ≤ l.getD i 0 ∧ l.getD i 0 < P) (t : Nat) : tot l t P = t := by
  induction t with
  | zero =>
    have : ∀ P, tot l 0 P = 0 := fun P => by
      induction P with
      | zero => rfl
      | succ P ih => simp only [tot, ih, ahead_zero]
    exact this P
  | succ t ih =>
    rw [tot_succ l t hp, ih, if_pos]
    exact hw _ (Nat.mod_lt _ hp)

end Go.Proofs.Ytcececjnndhalaa
