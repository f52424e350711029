/- Edges as a function, ways along it, and rings: numbers alone. -/
import Derived.Test.YtcmcapddijpidaaProg
namespace Go.Proofs.Ytcmcapddijpidaa

abbrev Fn := Int → Option Int
abbrev Cm := Int → Option Nat
def setF (f : Fn) (p v : Int) : Fn := fun x => if x = p then some v else f x
def setN (f : Cm) (p : Int) (i : Nat) : Cm := fun x => if x = p then some i else f x
def nxStep (f : Fn) (x : Int × Int) : Fn := if (f x.1).isNone = true ∨ x.2 < (f x.1).getD 0 then setF f x.1 x.2 else f
/-- To which number each one's edge goes that counts. -/
def nxs (e : List (Int × Int)) : Fn := e.foldl nxStep (fun _ => none)
theorem nxs_snoc (e : List (Int × Int)) (x : Int × Int) : nxs (e ++ [x]) = nxStep (nxs e) x := by simp [nxs]

def LeastOf (e : List (Int × Int)) (f : Fn) : Prop := ∀ p, (f p = none ∧ ∀ q, (p, q) ∉ e) ∨ ∃ l, f p = some l ∧ (p, l) ∈ e ∧ ∀ q, (p, q) ∈ e → l ≤ q
theorem LeastOf.step {e : List (Int × Int)} {f : Fn} (h : LeastOf e f) (x : Int × Int) : LeastOf (e ++ [x]) (nxStep f x) := by
  obtain ⟨a, b⟩ := x
  intro p
  unfold nxStep
  by_cases hp : p = a
  · subst hp
    rcases h p with ⟨h1, h2⟩ | ⟨l, h1, h2, h3⟩
    · right
      refine ⟨b, by simp [h1, setF], by simp, fun q hq => ?_⟩
      simp only [List.mem_append, List.mem_singleton] at hq
      rcases hq with hq | hq
      · exact absurd hq (h2 q)
      · cases hq; exact Int.le_refl _
    · right
      by_cases hlt : b < l
      · refine ⟨b, by simp [h1, hlt, setF], by simp, fun q hq => ?_⟩
        simp only [List.mem_append, List.mem_singleton] at hq
        rcases hq with hq | hq
        · have := h3 q hq; omega
        · cases hq; exact Int.le_refl _
      · refine ⟨l, by simp [h1, hlt], by simp [h2], fun q hq => ?_⟩
        simp only [List.mem_append, List.mem_singleton] at hq
        rcases hq with hq | hq
        · exact h3 q hq
        · cases hq; omega
  · have hf : (if (f (a, b).1).isNone = true ∨ (a, b).2 < (f (a, b).1).getD 0 then setF f (a, b).1 (a, b).2 else f) p = f p := by
      split
      · simp [setF, hp]
      · rfl
    rw [hf]
    have hm : ∀ q, (p, q) ∈ e ++ [(a, b)] ↔ (p, q) ∈ e := fun q => by simp [hp]
    simpa only [hm] using h p
theorem LeastOf.fold (e' : List (Int × Int)) : ∀ {e : List (Int × Int)} {f : Fn}, LeastOf e f → LeastOf (e ++ e') (e'.foldl nxStep f) := by
  induction e' with
  | nil => intro e f h; simpa using h
  | cons x r ih =>
    intro e f h
    have := ih (h.step x)
    simpa using this
theorem nxs_least (e : List (Int × Int)) : LeastOf e (nxs e) := by
  have h0 : LeastOf [] (fun _ => none) := fun p => .inl ⟨rfl, fun q h => by cases h⟩
  have := h0.fold e
  simpa [nxs] using this
theorem LeastOf.eq {e e' : List (Int × Int)} {f g : Fn} (h : LeastOf e f) (k : LeastOf e' g) (hm : ∀ x, x ∈ e ↔ x ∈ e') : f = g := by
  funext p
  rcases h p with ⟨h1, h2⟩ | ⟨l, h1, h2, h3⟩ <;> rcases k p with ⟨k1, k2⟩ | ⟨m, k1, k2, k3⟩
  · rw [h1, k1]
  · exact absurd ((hm _).2 k2) (h2 m)
  · exact absurd ((hm _).1 h2) (k2 l)
  · rw [h1, k1]
    have a := h3 m ((hm _).2 k2)
    have b := k3 l ((hm _).1 h2)
    congr 1
    omega
theorem nxs_reverse (e : List (Int × Int)) : nxs e.reverse = nxs e := (nxs_least _).eq (nxs_least _) (fun x => by simp)
theorem nxs_mem {e : List (Int × Int)} {p q : Int} (h : nxs e p = some q) : (p, q) ∈ e := by
  rcases nxs_least e p with ⟨h1, _⟩ | ⟨l, h1, h2, _⟩
  · rw [h1] at h; cases h
  · rw [h1] at h; cases h; exact h2
theorem nxs_none {e : List (Int × Int)} {p : Int} (h : nxs e p = none) : ∀ q, (p, q) ∉ e := by
  rcases nxs_least e p with ⟨_, h1⟩ | ⟨l, h1, _, _⟩
  · exact h1
  · rw [h1] at h; cases h

/-- All numbers that stand in the edges. -/
def ends (e : List (Int × Int)) : List Int := e.flatMap (fun x => [x.1, x.2])
theorem ends_len (e : List (Int × Int)) : (ends e).length = e.length * 2 := by
  induction e with
  | nil => rfl
  | cons x r ih => simp only [ends, List.flatMap_cons, List.length_append, List.length_cons, List.length_nil] at *; omega
theorem mem_ends {e : List (Int × Int)} {x : Int × Int} (h : x ∈ e) : x.1 ∈ ends e ∧ x.2 ∈ ends e := by
  simp only [ends, List.mem_flatMap]
  exact ⟨⟨x, h, by simp⟩, ⟨x, h, by simp⟩⟩
def free (U : List Int) (cm : Cm) : Nat := (U.filter (fun x => (cm x).isNone)).length
theorem free_le (U : List Int) (cm : Cm) : free U cm ≤ U.length := List.length_filter_le _ _
theorem free_lt {U : List Int} {cm : Cm} {p : Int} {i : Nat} (hp : p ∈ U) (h : cm p = none) : free U (setN cm p i) + 1 ≤ free U cm := by
  have hle : ∀ V : List Int, free V (setN cm p i) ≤ free V cm := by
    intro V
    induction V with
    | nil => exact Nat.le_refl _
    | cons y s ih2 =>
      unfold free at *
      by_cases h2 : y = p
      · subst h2; simp [setN, h]; simpa [setN] using Nat.le_succ_of_le ih2
      · cases h3 : cm y <;> simp [setN, h2, h3] <;> simpa [setN] using ih2
  induction U with
  | nil => cases hp
  | cons x r ih =>
    have h1 := hle r
    unfold free at *
    by_cases hx : x = p
    · subst hx
      simp only [List.filter_cons]
      have e1 : (setN cm x i x).isNone = false := by simp [setN]
      have e2 : (cm x).isNone = true := by rw [h]; rfl
      rw [e1, e2]
      simp
      exact h1
    · have hp' : p ∈ r := by rcases List.mem_cons.1 hp with h | h; exact absurd h.symm hx; exact h
      have ih' := ih hp'
      simp only [List.filter_cons]
      have e1 : (setN cm p i x).isNone = (cm x).isNone := by simp [setN, hx]
      rw [e1]
      split <;> simp <;> omega

/-- One way: from p on along the edges, each number marked with i, till one has no edge, or is marked: of this way (a ring), or of another one. -/
def Way (nx : Fn) (i : Nat) : Nat → Cm → Int → Cm → Option Int → Prop
  | 0, cm, p, c, r => (cm p = none ∧ nx p = none ∧ c = setN cm p i ∧ r = none) ∨ (cm p = some i ∧ c = cm ∧ r = some p) ∨ ∃ g, cm p = some g ∧ g ≠ i ∧ c = cm ∧ r = none
  | k + 1, cm, p, c, r => ∃ q, cm p = none ∧ nx p = some q ∧ Way nx i k (setN cm p i) q c r
section
variable {nx : Fn} {i : Nat} {cm cm' : Cm} {p : Int} {r : Option Int}
theorem Way.sink (h1 : cm p = none) (h2 : nx p = none) : Way nx i 0 cm p (setN cm p i) none := .inl ⟨h1, h2, rfl, rfl⟩
theorem Way.go {k : Nat} {q : Int} (h1 : cm p = none) (h2 : nx p = some q) (h3 : Way nx i k (setN cm p i) q cm' r) : Way nx i (k + 1) cm p cm' r := ⟨q, h1, h2, h3⟩
theorem Way.ring (h1 : cm p = some i) : Way nx i 0 cm p cm (some p) := .inr (.inl ⟨h1, rfl, rfl⟩)
theorem Way.met {g : Nat} (h1 : cm p = some g) (h2 : g ≠ i) : Way nx i 0 cm p cm none := .inr (.inr ⟨g, h1, h2, rfl, rfl⟩)
theorem Way.of_sink {k : Nat} (h : Way nx i k cm p cm' r) (h1 : cm p = none) (h2 : nx p = none) : k = 0 ∧ cm' = setN cm p i ∧ r = none := by
  cases k with
  | zero =>
    rcases h with ⟨_, _, a, b⟩ | ⟨a, _⟩ | ⟨g, a, _⟩
    · exact ⟨rfl, a, b⟩
    · rw [h1] at a; cases a
    · rw [h1] at a; cases a
  | succ k =>
    obtain ⟨q, _, a, _⟩ := h
    rw [h2] at a; cases a
theorem Way.of_go {k : Nat} {q : Int} (h : Way nx i k cm p cm' r) (h1 : cm p = none) (h2 : nx p = some q) : ∃ j, k = j + 1 ∧ Way nx i j (setN cm p i) q cm' r := by
  cases k with
  | zero =>
    rcases h with ⟨_, a, _⟩ | ⟨a, _⟩ | ⟨g, a, _⟩
    · rw [h2] at a; cases a
    · rw [h1] at a; cases a
    · rw [h1] at a; cases a
  | succ k =>
    obtain ⟨q', _, a, b⟩ := h
    rw [h2] at a
    cases a
    exact ⟨k, rfl, b⟩
theorem Way.of_some {k g : Nat} (h : Way nx i k cm p cm' r) (h1 : cm p = some g) : k = 0 ∧ cm' = cm ∧ ((g = i ∧ r = some p) ∨ (g ≠ i ∧ r = none)) := by
  cases k with
  | zero =>
    rcases h with ⟨a, _⟩ | ⟨a, b, c⟩ | ⟨g', a, b, c, d⟩
    · rw [h1] at a; cases a
    · rw [h1] at a; cases a; exact ⟨rfl, b, .inl ⟨rfl, c⟩⟩
    · rw [h1] at a; cases a; exact ⟨rfl, c, .inr ⟨b, d⟩⟩
  | succ k =>
    obtain ⟨q, a, _⟩ := h
    rw [h1] at a; cases a
end
theorem way_ex {nx : Fn} {U : List Int} (hU : ∀ x q, nx x = some q → q ∈ U) (i : Nat) : ∀ (n : Nat) (cm : Cm) (p : Int), p ∈ U → free U cm ≤ n → ∃ k cm' r, Way nx i k cm p cm' r := by
  intro n
  induction n with
  | zero =>
    intro cm p hp hf
    cases h : cm p with
    | none => have := free_lt (i := i) hp h; omega
    | some g =>
      by_cases e : g = i
      · subst e; exact ⟨_, _, _, .ring h⟩
      · exact ⟨_, _, _, .met h e⟩
  | succ n ih =>
    intro cm p hp hf
    cases h : cm p with
    | none =>
      cases hn : nx p with
      | none => exact ⟨_, _, _, .sink h hn⟩
      | some q =>
        have := free_lt (i := i) hp h
        obtain ⟨k, cm', r, hw⟩ := ih (setN cm p i) q (hU p q hn) (by omega)
        exact ⟨_, _, _, .go h hn hw⟩
    | some g =>
      by_cases e : g = i
      · subst e; exact ⟨_, _, _, .ring h⟩
      · exact ⟨_, _, _, .met h e⟩
theorem Way.det {nx : Fn} {i : Nat} : ∀ {k k2 : Nat} {cm c1 c2 : Cm} {p : Int} {r1 r2 : Option Int}, Way nx i k cm p c1 r1 → Way nx i k2 cm p c2 r2 → c1 = c2 ∧ r1 = r2 := by
  intro k
  induction k with
  | zero =>
    intro k2 cm c1 c2 p r1 r2 h h2
    cases hc : cm p with
    | none =>
      cases hn : nx p with
      | none =>
        obtain ⟨_, rfl, rfl⟩ := h.of_sink hc hn
        obtain ⟨_, rfl, rfl⟩ := h2.of_sink hc hn
        exact ⟨rfl, rfl⟩
      | some q =>
        obtain ⟨j, e, _⟩ := h.of_go hc hn
        omega
    | some g =>
      obtain ⟨_, rfl, a⟩ := h.of_some hc
      obtain ⟨_, rfl, b⟩ := h2.of_some hc
      rcases a with ⟨a1, rfl⟩ | ⟨a1, rfl⟩ <;> rcases b with ⟨b1, rfl⟩ | ⟨b1, rfl⟩ <;> first | exact ⟨rfl, rfl⟩ | exact absurd a1 b1 | exact absurd b1 a1
  | succ k ih =>
    intro k2 cm c1 c2 p r1 r2 h h2
    obtain ⟨q, a, b, c⟩ := h
    obtain ⟨j, _, d⟩ := h2.of_go a b
    exact ih c d
/-- The ways from each of these numbers on, one behind the other, till one finds a ring. -/
def Ways (nx : Fn) : List Int → Nat → Cm → Option Int → Prop
  | [], _, _, o => o = none
  | f :: r, i, cm, o => (∃ n cm' z, Way nx i n cm f cm' (some z) ∧ o = some z) ∨ ∃ n cm', Way nx i n cm f cm' none ∧ Ways nx r (i + 1) cm' o
theorem Ways.nil {nx : Fn} {i : Nat} {cm : Cm} : Ways nx [] i cm none := rfl
theorem Ways.stop {nx : Fn} {f z : Int} {r : List Int} {i n : Nat} {cm cm' : Cm} (h : Way nx i n cm f cm' (some z)) : Ways nx (f :: r) i cm (some z) := .inl ⟨_, _, _, h, rfl⟩
theorem Ways.on {nx : Fn} {f : Int} {r : List Int} {i n : Nat} {cm cm' : Cm} {o : Option Int} (h : Way nx i n cm f cm' none) (h2 : Ways nx r (i + 1) cm' o) : Ways nx (f :: r) i cm o := .inr ⟨_, _, h, h2⟩
theorem ways_ex {nx : Fn} {U : List Int} (hU : ∀ x q, nx x = some q → q ∈ U) : ∀ (K : List Int) (i : Nat) (cm : Cm), (∀ x ∈ K, x ∈ U) → ∃ o, Ways nx K i cm o
  | [], i, cm, _ => ⟨_, .nil⟩
  | f :: r, i, cm, hK => by
    obtain ⟨k, cm', o, hw⟩ := way_ex hU i _ cm f (hK f (by simp)) (Nat.le_refl _)
    cases o with
    | some z => exact ⟨_, .stop hw⟩
    | none =>
      obtain ⟨o, ho⟩ := ways_ex hU r (i + 1) cm' (fun x hx => hK x (by simp [hx]))
      exact ⟨_, .on hw ho⟩
theorem Ways.det {nx : Fn} : ∀ {K : List Int} {i : Nat} {cm : Cm} {o1 o2 : Option Int}, Ways nx K i cm o1 → Ways nx K i cm o2 → o1 = o2
  | [], _, _, _, _, h, h2 => h.trans h2.symm
  | f :: r, i, cm, o1, o2, h, h2 => by
    rcases h with ⟨n, c, z, a, rfl⟩ | ⟨n, c, a, b⟩ <;> rcases h2 with ⟨n', c', z', a', rfl⟩ | ⟨n', c', a', b'⟩
    · exact (a.det a').2
    · exact absurd (a.det a').2 (by simp)
    · exact absurd (a.det a').2 (by simp)
    · obtain ⟨rfl, _⟩ := a.det a'
      exact Ways.det b b'
end Go.Proofs.Ytcmcapddijpidaa
