/- The labels of a list, rising, each once: no Go in sight. -/
import Derived.Test.YtaikeeidjfcijaaM1
namespace Go.Proofs.Ytaikeeidjfcijaa

/-- c has just the labels of l, rising, each once. -/
def IsCanon (l c : List Nat) : Prop := c.Pairwise (· < ·) ∧ ∀ x, x ∈ c ↔ x ∈ l

/-- Is x above the last of a list? -/
def above (out : List Nat) (x : Nat) : Bool := match out.getLast? with | none => true | some y => decide (y < x)

/-- Of the first k labels of l that are above the last of out the least. -/
def scanTo (l out : List Nat) : Nat → Option Nat
  | 0 => none
  | k + 1 => if above out (l.getD k 0) = true ∧ (scanTo l out k = none ∨ l.getD k 0 < (scanTo l out k).getD 0) then some (l.getD k 0) else scanTo l out k

/-- out has just those of l that are at most its last, rising. -/
def CanonTo (l out : List Nat) : Prop := out.Pairwise (· < ·) ∧ (∀ x ∈ out, x ∈ l) ∧ ∀ x ∈ l, above out x = false → x ∈ out

theorem canonTo_nil (l : List Nat) : CanonTo l [] := ⟨List.Pairwise.nil, fun _ h => (by cases h), fun _ _ h => by simp [above] at h⟩

theorem scanTo_none {l out : List Nat} {k : Nat} (h : scanTo l out k = none) : ∀ i, i < k → above out (l.getD i 0) = false := by
  induction k with
  | zero => intro i hi; omega
  | succ k ih =>
    simp only [scanTo] at h
    split at h
    · cases h
    · rename_i hn
      have hk := ih h
      intro i hi
      by_cases e : i = k
      · subst e
        cases ha : above out (l.getD i 0)
        · rfl
        · exact absurd ⟨ha, .inl h⟩ hn
      · exact hk i (by omega)

theorem scanTo_some {l out : List Nat} {k m : Nat} (hkl : k ≤ l.length) (h : scanTo l out k = some m) : m ∈ l ∧ above out m = true ∧ ∀ i, i < k → above out (l.getD i 0) = true → m ≤ l.getD i 0 := by
  induction k generalizing m with
  | zero => simp [scanTo] at h
  | succ k ih =>
    simp only [scanTo] at h
    split at h
    · rename_i hy
      cases h
      refine ⟨?_, hy.1, fun i hi ha => ?_⟩
      · have hk : k < l.length := by omega
        simp only [List.getD_eq_getElem?_getD, List.getElem?_eq_getElem hk, Option.getD_some]
        exact List.getElem_mem hk
      · by_cases e : i = k
        · subst e; exact Nat.le_refl _
        · rcases hy.2 with hn | hl
          · rw [scanTo_none hn i (by omega)] at ha; cases ha
          · cases hs : scanTo l out k with
            | none => rw [scanTo_none hs i (by omega)] at ha; cases ha
            | some q =>
              rw [hs] at hl
              have := (ih (by omega) hs).2.2 i (by omega) ha
              rw [Option.getD_some] at hl
              omega
    · rename_i hn
      obtain ⟨h1, h2, h3⟩ := ih (by omega) h
      refine ⟨h1, h2, fun i hi ha => ?_⟩
      by_cases e : i = k
      · subst e
        rcases Nat.lt_or_ge (l.getD i 0) m with hlt | hge
        · exact absurd ⟨ha, .inr (by rw [h]; exact hlt)⟩ hn
        · exact hge
      · exact h3 i (by omega) ha

theorem mem_getD {l : List Nat} {x : Nat} (h : x ∈ l) : ∃ i, i < l.length ∧ l.getD i 0 = x := by
  obtain ⟨i, hi, e⟩ := List.getElem_of_mem h
  exact ⟨i, hi, by simp [List.getD_eq_getElem?_getD, hi, e]⟩

theorem canonTo_end {l out : List Nat} (h : CanonTo l out) (hs : scanTo l out l.length = none) : IsCanon l out := by
  refine ⟨h.1, fun x => ⟨h.2.1 x, fun hx => ?_⟩⟩
  obtain ⟨i, hi, e⟩ := mem_getD hx
  have := scanTo_none hs i hi
  rw [e] at this
  exact h.2.2 x hx this

theorem above_last (out : List Nat) (m x : Nat) : above (out ++ [m]) x = decide (m < x) := by simp [above]

theorem above_all {out : List Nat} {m : Nat} (hp : out.Pairwise (· < ·)) (ha : above out m = true) : ∀ x ∈ out, x < m := by
  intro x hx
  rcases List.eq_nil_or_concat out with rfl | ⟨r, y, rfl⟩
  · cases hx
  · rw [List.concat_eq_append] at *
    rw [above_last] at ha
    simp at ha
    rcases List.mem_append.1 hx with h | h
    · have := (List.pairwise_append.1 hp).2.2 x h y (by simp)
      omega
    · simp at h; omega

theorem canonTo_step {l out : List Nat} {m : Nat} (h : CanonTo l out) (hs : scanTo l out l.length = some m) : CanonTo l (out ++ [m]) := by
  obtain ⟨h1, h2, h3⟩ := scanTo_some (Nat.le_refl _) hs
  refine ⟨List.pairwise_append.2 ⟨h.1, by simp, fun x hx y hy => by simp at hy; subst hy; exact above_all h.1 h2 x hx⟩, fun x hx => ?_, fun x hx ha => ?_⟩
  · rcases List.mem_append.1 hx with hx | hx
    · exact h.2.1 x hx
    · simp at hx; subst hx; exact h1
  · rw [above_last] at ha
    simp at ha
    cases hb : above out x
    · exact List.mem_append.2 (.inl (h.2.2 x hx hb))
    · obtain ⟨i, hi, e⟩ := mem_getD hx
      have := h3 i hi (by rw [e]; exact hb)
      rw [e] at this
      have : x = m := by omega
      simp [this]

/-- A rising list of labels of l is no longer than l. -/
theorem rising_len : ∀ (l c : List Nat), c.Pairwise (· < ·) → (∀ x ∈ c, x ∈ l) → c.length ≤ l.length := by
  intro l c
  induction c generalizing l with
  | nil => intro _ _; simp
  | cons a r ih =>
    intro hp hm
    have ha : a ∈ l := hm a (by simp)
    have hr := ih (l.erase a) (List.pairwise_cons.1 hp).2 (fun x hx => by
      have h1 := (List.pairwise_cons.1 hp).1 x hx
      exact (List.mem_erase_of_ne (by omega)).2 (hm x (by simp [hx])))
    rw [List.length_erase_of_mem ha] at hr
    have : 0 < l.length := List.length_pos_of_mem ha
    simp
    omega

/-- Two lists that rise and have the same members are one. -/
theorem rising_ext : ∀ (c d : List Nat), c.Pairwise (· < ·) → d.Pairwise (· < ·) → (∀ x, x ∈ c ↔ x ∈ d) → c = d := by
  intro c
  induction c with
  | nil =>
    intro d _ _ h
    cases d with
    | nil => rfl
    | cons a r => exact absurd ((h a).2 (by simp)) (by simp)
  | cons a r ih =>
    intro d hc hd h
    cases d with
    | nil => exact absurd ((h a).1 (by simp)) (by simp)
    | cons b s =>
      obtain ⟨ca, cr⟩ := List.pairwise_cons.1 hc
      obtain ⟨db, ds⟩ := List.pairwise_cons.1 hd
      have hab : a = b := by
        have h1 := (h a).1 (by simp)
        have h2 := (h b).2 (by simp)
        rcases List.mem_cons.1 h1 with e | h1
        · exact e
        · rcases List.mem_cons.1 h2 with e | h2
          · exact e.symm
          · have := db a h1; have := ca b h2; omega
      subst hab
      congr 1
      refine ih s cr ds fun x => ?_
      constructor
      · intro hx
        rcases List.mem_cons.1 ((h x).1 (by simp [hx])) with e | hx'
        · have := ca x hx; omega
        · exact hx'
      · intro hx
        rcases List.mem_cons.1 ((h x).2 (by simp [hx])) with e | hx'
        · have := db x hx; omega
        · exact hx'

theorem canon_unique {l c d : List Nat} (hc : IsCanon l c) (hd : IsCanon l d) : c = d :=
  rising_ext c d hc.1 hd.1 fun x => (hc.2 x).trans (hd.2 x).symm

/-- Of a list that rises nothing is wrong from the second place on. -/
theorem rising_get {c : List Nat} (hp : c.Pairwise (· < ·)) {i j : Nat} (hij : i < j) (hj : j < c.length) : c.getD i 0 < c.getD j 0 := by
  have := List.pairwise_iff_getElem.1 hp i j (by omega) hj hij
  simpa [List.getD_eq_getElem?_getD, hj, show i < c.length by omega] using this

theorem mayFrom_rising {c : List Nat} (hp : c.Pairwise (· < ·)) : ∀ m i, 1 ≤ i → i + m = c.length → mayFrom c m i = (0, 0) := by
  intro m
  induction m with
  | zero => intro i _ _; rfl
  | succ m ih =>
    intro i hi hm
    have := rising_get hp (i := i - 1) (j := i) (by omega) (by omega)
    rw [mayFrom, if_neg (by omega), if_neg (by omega)]
    exact ih (i + 1) (by omega) (by omega)

theorem mayL_rising {c : List Nat} (hp : c.Pairwise (· < ·)) (h0 : 0 < c.length) (h8 : c.length ≤ 8) : mayL c = (0, 0) := by
  unfold mayL
  rw [if_neg (by omega), if_neg (by omega)]
  exact mayFrom_rising hp _ 1 (Nat.le_refl _) (by omega)

theorem mayFrom_yes {c : List Nat} : ∀ m i, 1 ≤ i → i + m = c.length → (mayFrom c m i).1 = 0 → ∀ j, i ≤ j → j < c.length → c.getD (j - 1) 0 < c.getD j 0 := by
  intro m
  induction m with
  | zero => intro i _ hm _ j h1 h2; omega
  | succ m ih =>
    intro i hi hm h j h1 h2
    rw [mayFrom] at h
    split at h
    · cases h
    · split at h
      · cases h
      · by_cases e : j = i
        · subst e; omega
        · exact ih (i + 1) (by omega) (by omega) h j (by omega) h2

theorem mayFrom_zero {c : List Nat} : ∀ m i, 1 ≤ i → (mayFrom c m i).1 = 0 → mayFrom c m i = (0, 0) := by
  intro m
  induction m with
  | zero => intro i _ _; rfl
  | succ m ih =>
    intro i hi h
    rw [mayFrom] at h ⊢
    split at h
    · cases h
    · split at h
      · cases h
      · rename_i h1 h2
        rw [if_neg h1, if_neg h2]
        exact ih (i + 1) (by omega) h

theorem mayL_zero {c : List Nat} (h : (mayL c).1 = 0) : mayL c = (0, 0) := by
  unfold mayL at h ⊢
  split at h
  · cases h
  · split at h
    · cases h
    · rename_i h1 h2
      rw [if_neg h1, if_neg h2]
      exact mayFrom_zero _ 1 (Nat.le_refl _) h

theorem mayL_yes {c : List Nat} (h : (mayL c).1 = 0) : c.Pairwise (· < ·) := by
  unfold mayL at h
  split at h
  · cases h
  · split at h
    · cases h
    · rename_i h1 h2
      have hs := mayFrom_yes (c.length - 1) 1 (Nat.le_refl _) (by omega) h
      have step : ∀ d i, i + d < c.length → c.getD i 0 ≤ c.getD (i + d) 0 := by
        intro d
        induction d with
        | zero => intro i _; exact Nat.le_refl _
        | succ d ih =>
          intro i hi
          have a := ih i (by omega)
          have b := hs (i + (d + 1)) (by omega) hi
          have e : i + (d + 1) - 1 = i + d := by omega
          rw [e] at b
          omega
      rw [List.pairwise_iff_getElem]
      intro i j hi hj hij
      have a := step (j - 1 - i) i (by omega)
      have b := hs j (by omega) hj
      have e : i + (j - 1 - i) = j - 1 := by omega
      rw [e] at a
      simp only [List.getD_eq_getElem?_getD, List.getElem?_eq_getElem hi, List.getElem?_eq_getElem hj, List.getElem?_eq_getElem (show j - 1 < c.length by omega), Option.getD_some] at a b
      omega

/-- Of a list that rises the partition of a label. -/
theorem lastIx_rising {c : List Nat} (hp : c.Pairwise (· < ·)) {i : Nat} : ∀ k, i < k → k ≤ c.length → lastIx c (c.getD i 0) k = some i := by
  intro k
  induction k with
  | zero => intro h _; omega
  | succ k ih =>
    intro hi hk
    simp only [lastIx]
    by_cases e : i = k
    · subst e; rw [if_pos rfl]
    · have := rising_get hp (i := i) (j := k) (by omega) (by omega)
      rw [if_neg (by omega)]
      exact ih (by omega) (by omega)

theorem lastIx_none {c : List Nat} {a : Nat} : ∀ k, k ≤ c.length → a ∉ c → lastIx c a k = none := by
  intro k
  induction k with
  | zero => intro _ _; rfl
  | succ k ih =>
    intro hk ha
    simp only [lastIx]
    rw [if_neg, ih (by omega) ha]
    intro e
    refine ha ?_
    rw [← e]
    simp only [List.getD_eq_getElem?_getD, List.getElem?_eq_getElem (show k < c.length by omega), Option.getD_some]
    exact List.getElem_mem _

end Go.Proofs.Ytaikeeidjfcijaa
