/- The wheel's mathematics: things in order, heaps, what is taken off. -/
import Init
namespace Go.Proofs.Ytdpbkoohhnpjmaa

/-- A thing: when it is due, its number. -/
abbrev Th := Int × Int
def ltT (a b : Th) : Prop := a.1 < b.1 ∨ a.1 = b.1 ∧ a.2 < b.2
instance (a b : Th) : Decidable (ltT a b) := by unfold ltT; infer_instance
theorem ltT_irrefl (a : Th) : ¬ ltT a a := by unfold ltT; omega
theorem ltT_asymm {a b : Th} (h : ltT a b) : ¬ ltT b a := by unfold ltT at *; omega
theorem ltT_trans {a b c : Th} (h : ltT a b) (k : ltT b c) : ltT a c := by unfold ltT at *; omega
/-- Not ahead of, both ways: the same. -/
theorem ltT_eq {a b : Th} (h : ¬ ltT a b) (k : ¬ ltT b a) : a = b := by
  unfold ltT at *
  exact Prod.ext (by omega) (by omega)
theorem leT_trans {a b c : Th} (h : ¬ ltT b a) (k : ¬ ltT c b) : ¬ ltT c a := by unfold ltT at *; omega
theorem leT_ltT {a b c : Th} (h : ¬ ltT c b) (k : ltT a b) : ¬ ltT c a := by unfold ltT at *; omega

def par (c : Nat) : Nat := (c - 1) / 2
/-- The first n of them are a heap. -/
def Heap (f : Nat → Th) (n : Nat) : Prop := ∀ c, 0 < c → c < n → ¬ ltT (f c) (f (par c))
def sw (f : Nat → Th) (i j : Nat) : Nat → Th := fun c => if c = j then f i else if c = i then f j else f c
/-- .. but for the one at j, which may go up. -/
def UpI (f : Nat → Th) (n j : Nat) : Prop := (∀ c, 0 < c → c < n → c ≠ j → ¬ ltT (f c) (f (par c))) ∧ ∀ c, 0 < c → c < n → par c = j → 0 < j → ¬ ltT (f c) (f (par j))
/-- .. but for the one at i, which may go down. -/
def DnI (f : Nat → Th) (n i : Nat) : Prop := (∀ c, 0 < c → c < n → par c ≠ i → ¬ ltT (f c) (f (par c))) ∧ ∀ c, 0 < c → c < n → par c = i → 0 < i → ¬ ltT (f c) (f (par i))

theorem par_lt {c : Nat} (h : 0 < c) : par c < c := by unfold par; omega
theorem UpI.step {f : Nat → Th} {n j : Nat} (h : UpI f n j) (hj : 0 < j) (hjn : j < n) (hl : ltT (f j) (f (par j))) : UpI (sw f (par j) j) n (par j) := by
  have hp := par_lt hj
  have ej : ∀ c, c ≠ j → c ≠ par j → sw f (par j) j c = f c := fun c h1 h2 => by unfold sw; rw [if_neg h1, if_neg h2]
  have e1 : sw f (par j) j j = f (par j) := by unfold sw; rw [if_pos rfl]
  have e2 : sw f (par j) j (par j) = f j := by unfold sw; rw [if_neg (by omega), if_pos rfl]
  refine ⟨fun c h0 hn hc => ?_, fun c h0 hn hc hp0 => ?_⟩
  · have hpc := par_lt h0
    by_cases hcj : c = j
    · subst hcj
      rw [e1, e2]
      exact ltT_asymm hl
    · rw [ej c hcj hc]
      by_cases h1 : par c = j
      · rw [h1, e1]
        exact h.2 c h0 hn h1 hj
      · by_cases h2 : par c = par j
        · rw [h2, e2]
          have := h.1 c h0 hn hcj
          rw [h2] at this
          exact leT_ltT this hl
        · rw [ej _ h1 h2]
          exact h.1 c h0 hn hcj
  · have hpp := par_lt hp0
    rw [ej (par (par j)) (by omega) (by omega)]
    have hpj := h.1 (par j) hp0 (by omega) (by omega)
    by_cases hcj : c = j
    · subst hcj
      rw [e1]
      exact hpj
    · have hpc := par_lt h0
      rw [ej c hcj (by omega)]
      have := h.1 c h0 hn hcj
      rw [hc] at this
      exact leT_trans hpj this
theorem UpI.done0 {f : Nat → Th} {n : Nat} (h : UpI f n 0) : Heap f n := fun c h0 hn => h.1 c h0 hn (by omega)
theorem UpI.done {f : Nat → Th} {n j : Nat} (h : UpI f n j) (hl : ¬ ltT (f j) (f (par j))) : Heap f n := fun c h0 hn => by
  by_cases hc : c = j
  · subst hc; exact hl
  · exact h.1 c h0 hn hc
/-- One more behind a heap. -/
theorem UpI.push {f g : Nat → Th} {n : Nat} (h : Heap f n) (hg : ∀ i, i < n → g i = f i) : UpI g (n + 1) n := ⟨fun c h0 hn hc => by
    have := par_lt h0
    rw [hg c (by omega), hg (par c) (by omega)]
    exact h c h0 (by omega), fun c h0 hn hc => by have := par_lt h0; omega⟩

theorem par_child {c i : Nat} (h0 : 0 < c) : par c = i ↔ c = 2 * i + 1 ∨ c = 2 * i + 2 := by unfold par; omega
theorem DnI.step {f : Nat → Th} {n i j : Nat} (h : DnI f n i) (hj0 : 0 < j) (hjn : j < n) (hpj : par j = i) (hmin : ∀ c, 0 < c → c < n → par c = i → ¬ ltT (f c) (f j)) (hl : ltT (f j) (f i)) : DnI (sw f i j) n j := by
  have hij := par_lt hj0
  rw [hpj] at hij
  have ej : ∀ c, c ≠ j → c ≠ i → sw f i j c = f c := fun c h1 h2 => by unfold sw; rw [if_neg h1, if_neg h2]
  have e1 : sw f i j j = f i := by unfold sw; rw [if_pos rfl]
  have e2 : sw f i j i = f j := by unfold sw; rw [if_neg (by omega), if_pos rfl]
  refine ⟨fun c h0 hn hc => ?_, fun c h0 hn hc _ => ?_⟩
  · have hpc := par_lt h0
    by_cases hcj : c = j
    · subst hcj
      rw [e1, hpj, e2]
      exact ltT_asymm hl
    · by_cases hci : c = i
      · subst hci
        rw [e2, ej (par c) (by omega) (by omega)]
        exact h.2 j hj0 hjn hpj h0
      · rw [ej c hcj hci]
        by_cases h1 : par c = i
        · rw [h1, e2]
          exact hmin c h0 hn h1
        · rw [ej _ hc h1]
          exact h.1 c h0 hn h1
  · have hpc := par_lt h0
    rw [hpj, e2, ej c (by omega) (by omega)]
    have := h.1 c h0 hn (by omega)
    rwa [hc] at this
theorem DnI.done0 {f : Nat → Th} {n i : Nat} (h : DnI f n i) (hi : n ≤ 2 * i + 1) : Heap f n := fun c h0 hn => h.1 c h0 hn (fun e => by have := (par_child h0).1 e; omega)
theorem DnI.done {f : Nat → Th} {n i j : Nat} (h : DnI f n i) (hmin : ∀ c, 0 < c → c < n → par c = i → ¬ ltT (f c) (f j)) (hl : ¬ ltT (f j) (f i)) : Heap f n := fun c h0 hn => by
  by_cases hc : par c = i
  · rw [hc]
    exact leT_trans hl (hmin c h0 hn hc)
  · exact h.1 c h0 hn hc
/-- The first one of a heap taken off, the last one laid in her place. -/
theorem DnI.pop {f g : Nat → Th} {n : Nat} (h : Heap f (n + 1)) (hg : ∀ i, 0 < i → i < n → g i = f i) : DnI g n 0 := ⟨fun c h0 hn hc => by
    have := par_lt h0
    rw [hg c h0 hn, hg (par c) (by omega) (by omega)]
    exact h c h0 (by omega), fun _ _ _ _ h0 => absurd h0 (by omega)⟩
theorem Heap.root {f : Nat → Th} {n : Nat} (h : Heap f n) (c : Nat) : c < n → ¬ ltT (f c) (f 0) := by
  induction c using Nat.strongRecOn with
  | ind c ih =>
    intro hn
    by_cases h0 : c = 0
    · subst h0; exact ltT_irrefl _
    · have hp := par_lt (show 0 < c by omega)
      exact leT_trans (ih _ hp (by omega)) (h c (by omega) hn)
/-- What rises is a heap. -/
theorem Heap.sorted {f : Nat → Th} {n : Nat} (h : ∀ i j, i < j → j < n → ¬ ltT (f j) (f i)) : Heap f n := fun _ h0 hn => h _ _ (par_lt h0) hn

/-! ### lists of things -/
def tAt (O : List Th) (i : Nat) : Th := O.getD i (0, 0)
/-- Two of them at each other's places. -/
def swL (O : List Th) (i j : Nat) : List Th := (O.set i (tAt O j)).set j (tAt O i)
theorem swL_len (O : List Th) (i j : Nat) : (swL O i j).length = O.length := by simp [swL]
theorem tAt_get {O : List Th} {i : Nat} (h : i < O.length) : O[i]? = some (tAt O i) := by
  unfold tAt
  rw [List.getD_eq_getElem?_getD, List.getElem?_eq_getElem h]
  rfl
theorem tAt_mem {O : List Th} {i : Nat} (h : i < O.length) : tAt O i ∈ O := List.mem_of_getElem? (tAt_get h)
theorem mem_tAt {O : List Th} {x : Th} (h : x ∈ O) : ∃ i, i < O.length ∧ tAt O i = x := by
  obtain ⟨i, hi, e⟩ := List.getElem_of_mem h
  refine ⟨i, hi, ?_⟩
  have := tAt_get hi
  rw [List.getElem?_eq_getElem hi] at this
  rw [← e]
  exact (Option.some.inj this).symm
theorem swL_at {O : List Th} {i j : Nat} (hi : i < O.length) (hj : j < O.length) (c : Nat) : tAt (swL O i j) c = sw (tAt O) i j c := by
  unfold sw
  have : ∀ c, tAt (swL O i j) c = ((swL O i j)[c]?).getD (0, 0) := fun c => by unfold tAt; rw [List.getD_eq_getElem?_getD]
  rw [this]
  unfold swL
  rw [List.getElem?_set, List.getElem?_set]
  by_cases h1 : j = c
  · subst h1
    rw [if_pos rfl, if_pos rfl, List.length_set, if_pos hj]
    rfl
  · have h1' : ¬ c = j := fun e => h1 e.symm
    rw [if_neg h1, if_neg h1']
    by_cases h2 : i = c
    · subst h2
      rw [if_pos rfl, if_pos rfl, if_pos hi]
      rfl
    · have h2' : ¬ c = i := fun e => h2 e.symm
      rw [if_neg h2, if_neg h2']
      unfold tAt
      rw [List.getD_eq_getElem?_getD]
theorem swL_fun {O : List Th} {i j : Nat} (hi : i < O.length) (hj : j < O.length) : tAt (swL O i j) = sw (tAt O) i j := funext (swL_at hi hj)
theorem swL_mem {O : List Th} {i j : Nat} (hi : i < O.length) (hj : j < O.length) (x : Th) : x ∈ swL O i j ↔ x ∈ O := by
  constructor
  · intro h
    obtain ⟨c, hc, e⟩ := mem_tAt h
    rw [swL_len] at hc
    rw [swL_at hi hj] at e
    unfold sw at e
    split at e
    · rw [← e]; exact tAt_mem hi
    · split at e
      · rw [← e]; exact tAt_mem hj
      · rw [← e]; exact tAt_mem hc
  · intro h
    obtain ⟨c, hc, e⟩ := mem_tAt h
    have key : ∀ d, d < O.length → tAt (swL O i j) d = x → x ∈ swL O i j := fun d hd e => by rw [← e]; exact tAt_mem (by rw [swL_len]; exact hd)
    by_cases h1 : c = i
    · subst h1
      exact key j hj (by rw [swL_at hi hj]; unfold sw; rw [if_pos rfl]; exact e)
    · by_cases h2 : c = j
      · subst h2
        exact key i hi (by rw [swL_at hi hj]; unfold sw; split <;> rename_i h3; (· rw [h3]; exact e); (rw [if_pos rfl]; exact e))
      · exact key c hc (by rw [swL_at hi hj]; unfold sw; rw [if_neg h2, if_neg h1]; exact e)
theorem tAt_app_left {O P : List Th} {i : Nat} (h : i < O.length) : tAt (O ++ P) i = tAt O i := by
  unfold tAt
  rw [List.getD_eq_getElem?_getD, List.getD_eq_getElem?_getD, List.getElem?_append_left h]
theorem tAt_take {O : List Th} {i n : Nat} (h : i < n) : tAt (O.take n) i = tAt O i := by
  unfold tAt
  rw [List.getD_eq_getElem?_getD, List.getD_eq_getElem?_getD, List.getElem?_take, if_pos h]

/-! ### what is set -/
/-- It fits, and is not below nought. -/
def FitT (t : Th) : Prop := (0 ≤ t.1 ∧ t.1 ≤ 9223372036854775807) ∧ 0 ≤ t.2 ∧ t.2 ≤ 9223372036854775807
def clr (id : Int) (L : List Th) : List Th := L.filter (fun t => t.2 != id)
def setA (id due : Int) (L : List Th) : List Th := clr id L ++ [(due, id)]
/-- No number twice; each one fits. -/
structure GoodW (L : List Th) : Prop where
  nod : L.Pairwise (fun a b => a.2 ≠ b.2)
  fit : ∀ t ∈ L, FitT t
theorem clr_mem {id : Int} {L : List Th} {t : Th} : t ∈ clr id L ↔ t ∈ L ∧ t.2 ≠ id := by simp [clr]
theorem GoodW.nil : GoodW [] := ⟨List.Pairwise.nil, fun _ h => absurd h List.not_mem_nil⟩
theorem GoodW.clr {L : List Th} (h : GoodW L) (id : Int) : GoodW (clr id L) := ⟨h.nod.filter _, fun t ht => h.fit t (clr_mem.1 ht).1⟩
theorem GoodW.set {L : List Th} (h : GoodW L) {id due : Int} (hf : FitT (due, id)) : GoodW (setA id due L) := by
  refine ⟨?_, fun t ht => ?_⟩
  · unfold setA
    rw [List.pairwise_append]
    refine ⟨(h.clr id).nod, List.pairwise_singleton _ _, fun a ha b hb => ?_⟩
    simp at hb
    subst hb
    exact (clr_mem.1 ha).2
  · unfold setA at ht
    rcases List.mem_append.1 ht with h1 | h1
    · exact (h.clr id).fit t h1
    · simp at h1; subst h1; exact hf
theorem GoodW.uniq {L : List Th} (h : GoodW L) {a b : Th} (ha : a ∈ L) (hb : b ∈ L) (e : a.2 = b.2) : a = b := by
  have hn := h.nod
  clear h
  induction L with
  | nil => exact absurd ha List.not_mem_nil
  | cons x r ih =>
    rw [List.pairwise_cons] at hn
    rcases List.mem_cons.1 ha with rfl | h1
    · rcases List.mem_cons.1 hb with rfl | h2
      · rfl
      · exact absurd e (hn.1 b h2)
    · rcases List.mem_cons.1 hb with rfl | h2
      · exact absurd e.symm (hn.1 a h1)
      · exact ih h1 h2 hn.2
/-- Is it set? -/
def isSet (id : Int) (L : List Th) : Bool := L.any (fun t => t.2 == id)
theorem isSet_iff {id : Int} {L : List Th} : isSet id L = true ↔ ∃ t ∈ L, t.2 = id := by simp [isSet]
theorem clr_none {id : Int} {L : List Th} (h : isSet id L = false) : clr id L = L := by
  unfold clr
  rw [List.filter_eq_self]
  intro t ht
  unfold isSet at h
  have := List.any_eq_false.1 h t ht
  simp at this
  simpa using this
theorem clr_len {L : List Th} (h : GoodW L) {id : Int} (hs : isSet id L = true) : (clr id L).length + 1 = L.length := by
  have hn := h.nod
  obtain ⟨t, ht, e⟩ := isSet_iff.1 hs
  clear h hs
  induction L with
  | nil => exact absurd ht List.not_mem_nil
  | cons x r ih =>
    rw [List.pairwise_cons] at hn
    unfold clr at *
    by_cases hx : x.2 = id
    · rw [List.filter_cons_of_neg (by simp [hx])]
      have : r.filter (fun t => t.2 != id) = r := by
        rw [List.filter_eq_self]
        intro a ha
        have := hn.1 a ha
        simp
        omega
      rw [this]
      rfl
    · rw [List.filter_cons_of_pos (by simp [hx])]
      rcases List.mem_cons.1 ht with rfl | h1
      · exact absurd e hx
      · have := ih hn.2 h1
        simp only [List.length_cons]
        omega
/-- When it is due, and whether it is set. -/
def dueA (id : Int) (L : List Th) : Int × Bool := match L.find? (fun t => t.2 == id) with | some t => (t.1, true) | none => (0, false)
theorem dueA_some {L : List Th} (h : GoodW L) {t : Th} (ht : t ∈ L) : dueA t.2 L = (t.1, true) := by
  unfold dueA
  cases hf : L.find? (fun u => u.2 == t.2) with
  | none =>
    have := List.find?_eq_none.1 hf t ht
    simp at this
  | some u =>
    have h1 := List.find?_some hf
    have h2 := List.mem_of_find?_eq_some hf
    simp at h1
    rw [h.uniq h2 ht h1]
theorem dueA_none {L : List Th} {id : Int} (h : isSet id L = false) : dueA id L = (0, false) := by
  unfold dueA
  have : L.find? (fun u => u.2 == id) = none := by
    rw [List.find?_eq_none]
    intro t ht
    have := List.any_eq_false.1 h t ht
    simpa using this
  rw [this]
/-- The one that is due first. -/
def IsMin (L : List Th) (m : Th) : Prop := m ∈ L ∧ ∀ x ∈ L, ¬ ltT x m
theorem IsMin.uniq {L : List Th} {m n : Th} (h : IsMin L m) (k : IsMin L n) : m = n := ltT_eq (k.2 m h.1) (h.2 n k.1)
/-- All that are due by now, one by one, and what is left. -/
inductive Pops (now : Int) : List Th → List Th → List Th → Prop
  | none : Pops now [] [] []
  | late {L : List Th} {m : Th} : IsMin L m → now < m.1 → Pops now L [] L
  | one {L out L' : List Th} {m : Th} : IsMin L m → m.1 ≤ now → Pops now (clr m.2 L) out L' → Pops now L (m :: out) L'
theorem Pops.det {now : Int} {L out L' out2 L2 : List Th} (h : Pops now L out L') (k : Pops now L out2 L2) : out = out2 ∧ L' = L2 := by
  induction h generalizing out2 L2 with
  | none =>
    cases k with
    | none => exact ⟨rfl, rfl⟩
    | late hm _ => exact ⟨rfl, rfl⟩
    | one hm _ _ => exact absurd hm.1 List.not_mem_nil
  | late hm hl =>
    cases k with
    | none => exact ⟨rfl, rfl⟩
    | late _ _ => exact ⟨rfl, rfl⟩
    | one hm2 h2 _ => rw [hm.uniq hm2] at hl; omega
  | one hm hl _ ih =>
    cases k with
    | none => exact absurd hm.1 List.not_mem_nil
    | late hm2 h2 => rw [hm.uniq hm2] at hl; omega
    | one hm2 h2 k2 =>
      rw [← hm.uniq hm2] at k2 ⊢
      obtain ⟨e1, e2⟩ := ih k2
      exact ⟨by rw [e1], e2⟩
end Go.Proofs.Ytdpbkoohhnpjmaa
