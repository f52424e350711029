/- Paths and rings: a ring is one, told from its least number on. -/
import Derived.Test.YtcmcapddijpidaaGM1
namespace Go.Proofs.Ytcmcapddijpidaa

def it (nx : Fn) : Nat → Int → Option Int
  | 0, a => some a
  | n + 1, a => (nx a).bind (it nx n)
def vv (nx : Fn) (z : Int) (j : Nat) : Int := (it nx j z).getD 0
section
variable {nx : Fn}
theorem it_add (a b : Nat) (z : Int) : it nx (a + b) z = (it nx a z).bind (it nx b) := by
  induction a generalizing z with
  | zero => simp [it]
  | succ a ih =>
    rw [show a + 1 + b = (a + b) + 1 by omega]
    simp only [it]
    cases nx z with
    | none => rfl
    | some y => exact ih y
theorem it_one (z : Int) : it nx 1 z = nx z := by simp only [it]; cases nx z <;> rfl
def Turn (nx : Fn) (z : Int) (k : Nat) : Prop := 0 < k ∧ it nx k z = some z ∧ ∀ j, 0 < j → j < k → it nx j z ≠ some z
theorem least_nat {P : Nat → Prop} : ∀ n, P n → ∃ k, P k ∧ ∀ j, j < k → ¬ P j := by
  intro n
  induction n using Nat.strongRecOn with
  | _ n ih =>
    intro h
    by_cases e : ∃ j, j < n ∧ P j
    · obtain ⟨j, h1, h2⟩ := e
      exact ih j h1 h2
    · exact ⟨n, h, fun j hj hp => e ⟨j, hj, hp⟩⟩
theorem turn_of {z : Int} {j : Nat} (h : it nx (j + 1) z = some z) : ∃ k, Turn nx z k := by
  obtain ⟨k, h1, h2⟩ := least_nat (P := fun j => it nx (j + 1) z = some z) j h
  refine ⟨k + 1, Nat.succ_pos _, h1, fun j h3 h4 e => ?_⟩
  obtain ⟨m, rfl⟩ : ∃ m, j = m + 1 := ⟨j - 1, by omega⟩
  exact h2 m (by omega) e
theorem way_ring {i : Nat} : ∀ {n : Nat} {cm cm' : Cm} {p z : Int}, Way nx i n cm p cm' (some z) → (∀ x, cm x = some i → ∃ j, it nx (j + 1) x = some p) → ∃ j, it nx (j + 1) z = some z := by
  intro n
  induction n with
  | zero =>
    intro cm cm' p z h hc
    rcases h with ⟨_, _, _, a⟩ | ⟨a, _, b⟩ | ⟨_, _, _, _, a⟩
    · cases a
    · cases b; exact hc _ a
    · cases a
  | succ n ih =>
    intro cm cm' p z h hc
    obtain ⟨q, a, b, c⟩ := h
    refine ih c (fun x hx => ?_)
    by_cases e : x = p
    · subst e
      exact ⟨0, by rw [it_one]; exact b⟩
    · simp only [setN, if_neg e] at hx
      obtain ⟨j, hj⟩ := hc x hx
      refine ⟨j + 1, ?_⟩
      rw [it_add, hj]
      exact (it_one p).trans b
theorem way_marks {i : Nat} : ∀ {n : Nat} {cm cm' : Cm} {p : Int} {o : Option Int}, Way nx i n cm p cm' o → ∀ x g, cm' x = some g → cm x = some g ∨ g = i := by
  have hs : ∀ (cm : Cm) (p x : Int) (g : Nat), setN cm p i x = some g → cm x = some g ∨ g = i := by
    intro cm p x g h
    unfold setN at h
    split at h
    · cases h; exact .inr rfl
    · exact .inl h
  intro n
  induction n with
  | zero =>
    intro cm cm' p o h x g hg
    rcases h with ⟨_, _, rfl, _⟩ | ⟨_, rfl, _⟩ | ⟨_, _, _, rfl, _⟩
    · exact hs _ _ x g hg
    · exact .inl hg
    · exact .inl hg
  | succ n ih =>
    intro cm cm' p o h x g hg
    obtain ⟨q, _, _, c⟩ := h
    rcases ih c x g hg with h | h
    · exact hs _ _ x g h
    · exact .inr h
theorem ways_ring : ∀ {K : List Int} {i : Nat} {cm : Cm} {o : Option Int} {z : Int}, Ways nx K i cm o → o = some z → (∀ x g, cm x = some g → g < i) → ∃ k, Turn nx z k
  | [], _, _, _, _, h, ho, _ => by cases h; cases ho
  | f :: r, i, cm, o, z, h, ho, hc => by
    rcases h with ⟨n, c, y, a, rfl⟩ | ⟨n, c, a, b⟩
    · cases ho
      obtain ⟨j, hj⟩ := way_ring a (fun x hx => absurd (hc x _ hx) (Nat.lt_irrefl _))
      exact turn_of hj
    · refine ways_ring b ho (fun x g hg => ?_)
      rcases way_marks a x g hg with h | h
      · have := hc x g h; omega
      · omega
theorem it_some {z y : Int} {k : Nat} (h : it nx k z = some y) {j : Nat} (hj : j ≤ k) : it nx j z = some (vv nx z j) := by
  have e : it nx k z = (it nx j z).bind (it nx (k - j)) := by rw [← it_add]; congr 1; omega
  rw [e] at h
  unfold vv
  cases hq : it nx j z with
  | none => rw [hq] at h; cases h
  | some y => rfl
theorem vv_zero (z : Int) : vv nx z 0 = z := rfl
section
variable {z : Int} {k : Nat}
theorem Turn.at (h : Turn nx z k) {j : Nat} (hj : j ≤ k) : it nx j z = some (vv nx z j) := it_some h.2.1 hj
theorem Turn.next (h : Turn nx z k) {j : Nat} (hj : j < k) : nx (vv nx z j) = some (vv nx z (j + 1)) := by
  have h1 := h.at (j := j) (by omega)
  have h2 := h.at (j := j + 1) (by omega)
  rw [it_add, h1] at h2
  rw [← h2]
  exact (it_one _).symm
theorem Turn.end (h : Turn nx z k) : vv nx z k = z := by unfold vv; rw [h.2.1]; rfl
theorem Turn.shift (h : Turn nx z k) {i : Nat} (hi : i ≤ k) (j : Nat) : it nx j (vv nx z i) = it nx (i + j) z := by rw [it_add, h.at hi]; rfl
theorem Turn.wrap (h : Turn nx z k) (j : Nat) : it nx (k + j) z = it nx j z := by rw [it_add, h.2.1]; rfl
theorem Turn.move (h : Turn nx z k) {i : Nat} (hi : i < k) : Turn nx (vv nx z i) k := by
  refine ⟨h.1, ?_, fun j h1 h2 e => ?_⟩
  · rw [h.shift (by omega), show i + k = k + i by omega, h.wrap, h.at (by omega)]
  · rw [h.shift (by omega)] at e
    have a : it nx (i + j + (k - i)) z = some z := by
      rw [it_add, e]
      show it nx (k - i) (vv nx z i) = some z
      rw [h.shift (by omega), show i + (k - i) = k by omega]
      exact h.2.1
    rw [show i + j + (k - i) = k + j by omega, h.wrap] at a
    exact h.2.2 j h1 h2 a
theorem Turn.inj (h : Turn nx z k) {i j : Nat} (hi : i < k) (hj : j < k) (e : vv nx z i = vv nx z j) : i = j := by
  have key : ∀ a b, a < b → b < k → vv nx z a ≠ vv nx z b := by
    intro a b hab hb e
    have t := h.move (i := a) (by omega)
    refine t.2.2 (b - a) (by omega) (by omega) ?_
    rw [h.shift (by omega), show a + (b - a) = b by omega, h.at (by omega), e]
  rcases Nat.lt_trichotomy i j with c | c | c
  · exact absurd e (key i j c hj)
  · exact c
  · exact absurd e.symm (key j i c hi)
theorem Turn.vv_move (h : Turn nx z k) {i : Nat} (hi : i < k) (j : Nat) : vv nx (vv nx z i) j = vv nx z (i + j) := by
  unfold vv
  rw [show (it nx i z).getD 0 = vv nx z i from rfl, h.shift (by omega)]
theorem Turn.vv_wrap (h : Turn nx z k) (j : Nat) : vv nx z (k + j) = vv nx z j := by unfold vv; rw [h.wrap]
theorem Turn.same (h : Turn nx z k) {k2 : Nat} (h2 : Turn nx z k2) : k = k2 := by
  rcases Nat.lt_trichotomy k k2 with c | c | c
  · exact absurd h.2.1 (h2.2.2 k h.1 c)
  · exact c
  · exact absurd h2.2.1 (h.2.2 k2 h2.1 c)
end
def tl (nx : Fn) (m : Int) (k : Nat) : List Int := (List.range k).map (vv nx m)
theorem tl_len (m : Int) (k : Nat) : (tl nx m k).length = k := by simp [tl]
theorem tl_at {m : Int} {k i : Nat} (hi : i < k) (d : Int) : (tl nx m k).getD i d = vv nx m i := by simp [tl, List.getD_eq_getElem?_getD, hi]
theorem tl_succ (m : Int) (k : Nat) : tl nx m (k + 1) = tl nx m k ++ [vv nx m k] := by simp [tl, List.range_succ]
theorem nodup_le : ∀ (l U : List Int), l.Nodup → (∀ x ∈ l, x ∈ U) → l.length ≤ U.length
  | [], _, _, _ => Nat.zero_le _
  | x :: r, U, hn, hs => by
    have hx : x ∈ U := hs x (by simp)
    rw [List.nodup_cons] at hn
    have h1 := nodup_le r (U.erase x) hn.2 (fun y hy => by
      have hne : y ≠ x := fun e => hn.1 (e ▸ hy)
      exact (List.mem_erase_of_ne hne).2 (hs y (by simp [hy])))
    rw [List.length_erase_of_mem hx] at h1
    have := List.length_pos_of_mem hx
    simp only [List.length_cons]
    omega
theorem Turn.nodup {z : Int} {k : Nat} (h : Turn nx z k) : (tl nx z k).Nodup := by
  unfold tl
  unfold List.Nodup
  rw [List.pairwise_map]
  refine List.Pairwise.imp_of_mem (fun {a b} ha hb hab e => hab (h.inj (List.mem_range.1 ha) (List.mem_range.1 hb) e)) List.nodup_range
theorem Turn.le {z : Int} {k : Nat} (h : Turn nx z k) {U : List Int} (hU : ∀ x q, nx x = some q → q ∈ U) : k ≤ U.length := by
  have := nodup_le (tl nx z k) U h.nodup (fun x hx => by
    simp only [tl, List.mem_map, List.mem_range] at hx
    obtain ⟨j, hj, rfl⟩ := hx
    cases j with
    | zero =>
      have := h.next (j := k - 1) (by have := h.1; omega)
      rw [show k - 1 + 1 = k by have := h.1; omega, h.end] at this
      exact hU _ _ this
    | succ j => exact hU _ _ (h.next (by omega)))
  rwa [tl_len] at this
/-- The ring on which z stands, from its least number on. -/
def Told (nx : Fn) (z : Int) (l : List Int) : Prop := ∃ k m, Turn nx z k ∧ (∃ i, i < k ∧ m = vv nx z i) ∧ (∀ i, i < k → m ≤ vv nx z i) ∧ l = tl nx m k
theorem Told.det {z : Int} {l l' : List Int} (h : Told nx z l) (h' : Told nx z l') : l = l' := by
  obtain ⟨k, m, a, ⟨i, hi, rfl⟩, c, rfl⟩ := h
  obtain ⟨k', m', a', ⟨i', hi', rfl⟩, c', rfl⟩ := h'
  obtain rfl := a.same a'
  have e1 := c i' hi'
  have e2 := c' i hi
  rw [show vv nx z i = vv nx z i' by omega]
def EndIs (nx : Fn) : Option Int → List Int → Prop
  | none, l => l = []
  | some z, l => Told nx z l
def Keys (nx : Fn) (K : List Int) : Prop := K.Pairwise (· < ·) ∧ ∀ x, x ∈ K ↔ (nx x).isSome = true
def RingIs (nx : Fn) (l : List Int) : Prop := ∃ K o, Keys nx K ∧ Ways nx K 0 (fun _ => none) o ∧ EndIs nx o l
theorem strict_ext : ∀ {a b : List Int}, a.Pairwise (· < ·) → b.Pairwise (· < ·) → (∀ x, x ∈ a ↔ x ∈ b) → a = b
  | [], [], _, _, _ => rfl
  | [], y :: s, _, _, h => absurd ((h y).2 (by simp)) (by simp)
  | x :: r, [], _, _, h => absurd ((h x).1 (by simp)) (by simp)
  | x :: r, y :: s, ha, hb, h => by
    rw [List.pairwise_cons] at ha hb
    have e : x = y := by
      have h1 := (h x).1 (by simp)
      have h2 := (h y).2 (by simp)
      rcases List.mem_cons.1 h1 with e | h1
      · exact e
      · rcases List.mem_cons.1 h2 with e | h2
        · exact e.symm
        · have := hb.1 x h1; have := ha.1 y h2; omega
    subst e
    congr 1
    refine strict_ext ha.2 hb.2 (fun z => ⟨fun hz => ?_, fun hz => ?_⟩)
    · have := (h z).1 (by simp [hz])
      rcases List.mem_cons.1 this with e | e
      · subst e; exact absurd (ha.1 z hz) (Int.lt_irrefl _)
      · exact e
    · have := (h z).2 (by simp [hz])
      rcases List.mem_cons.1 this with e | e
      · subst e; exact absurd (hb.1 z hz) (Int.lt_irrefl _)
      · exact e
theorem Keys.eq {K K' : List Int} (h : Keys nx K) (h' : Keys nx K') : K = K' := strict_ext h.1 h'.1 (fun x => (h.2 x).trans (h'.2 x).symm)
theorem RingIs.det {l l' : List Int} (h : RingIs nx l) (h' : RingIs nx l') : l = l' := by
  obtain ⟨K, o, a, b, c⟩ := h
  obtain ⟨K', o', a', b', c'⟩ := h'
  obtain rfl := a.eq a'
  obtain rfl := b.det b'
  cases o with
  | none => exact c.trans c'.symm
  | some z => exact Told.det c c'
theorem RingIs.ok {l : List Int} (h : RingIs nx l) : l = [] ∨ ∃ m k, Turn nx m k ∧ l = tl nx m k ∧ ∀ i, i < k → m ≤ vv nx m i := by
  obtain ⟨K, o, a, b, c⟩ := h
  cases o with
  | none => exact .inl c
  | some z =>
    obtain ⟨k, m, t, ⟨i, hi, rfl⟩, c2, rfl⟩ := c
    refine .inr ⟨_, k, t.move hi, rfl, fun j hj => ?_⟩
    rw [t.vv_move hi]
    by_cases e : i + j < k
    · exact c2 _ e
    · rw [show i + j = k + (i + j - k) by omega, t.vv_wrap]
      exact c2 _ (by omega)
end
end Go.Proofs.Ytcmcapddijpidaa
