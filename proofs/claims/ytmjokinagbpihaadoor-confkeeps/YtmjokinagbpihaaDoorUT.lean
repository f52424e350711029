/- A region that draws its order, whose last operation waits for all the others: the others in the order of the text, in worlds of one class, then the last. -/
import Derived.Deep.Quiet
import Derived.Tactics
namespace Go.Proofs.YtmjokinagbpihaaDoor

section
variable {P : Program}

/-- The operation j waits for the operation i. -/
def waits (l : List Oper) (j i : Nat) : Bool := match l[j]? with | some o => o.after.any (fun e => Region.binds .any e && e.on == i) | none => false
theorem waits_spec {l : List Oper} {j i : Nat} (h : waits l j i = true) : ∃ o, l[j]? = some o ∧ ∃ e ∈ o.after, Region.binds .any e = true ∧ e.on = i := by
  unfold waits at h
  split at h
  · next o ho =>
    obtain ⟨e, he, hb⟩ := Array.any_eq_true'.1 h
    simp only [Bool.and_eq_true, beq_iff_eq] at hb
    exact ⟨o, ho, e, he, hb.1, hb.2⟩
  · cases h

/-- No guards; each waits for earlier ones alone; the last, in the end, for all. -/
def lastB (l : List Oper) (n : Nat) : Bool :=
  l.all (fun o => o.guard.isNone) && (List.range n).all (fun i => match l[i]? with | some o => o.after.all (fun e => !Region.binds .any e || decide (e.on < i)) | none => false) &&
  (match l[n]? with | some o => o.after.all (fun e => !Region.binds .any e || decide (e.on < n)) && (List.range n).all (fun i => waits l n i || (List.range n).any (fun j => decide (i < j) && waits l j i)) | none => false)

theorem push_at (L : Array Bool) (i : Nat) (d : Bool) (h : i < L.size) : (L.push false).getD i d = L.getD i d := by
  simp [Array.getD_eq_getD_getElem?, Array.getElem?_push, Nat.ne_of_lt h]
theorem push_end (L : Array Bool) (i : Nat) (h : L.size ≤ i) : (L.push false).getD i false = false ∧ L.getD i false = false := by
  constructor
  · simp only [Array.getD_eq_getD_getElem?, Array.getElem?_push]
    split
    · rfl
    · rw [Array.getElem?_eq_none h]; rfl
  · simp [Array.getD_eq_getD_getElem?, Array.getElem?_eq_none h]
theorem in_both {L : Array Bool} {i : Nat} (h : i < L.size) : L.getD i true = L.getD i false := by simp [Array.getD_eq_getD_getElem?, h]

/-- Of the earlier ones one may come up just if it may without the last. -/
theorem ready_head {l : List Oper} {n : Nat} (L : Array Bool) (hL : L.size = n) (i : Nat) (hi : i < n) : i ∈ Region.ready .any l.toArray (L.push false) ↔ i ∈ Region.ready .any (l.take n).toArray L := by
  rw [mem_ready, mem_ready, push_at _ _ _ (by omega)]
  have e : (l.take n).toArray[i]? = l.toArray[i]? := by simp [hi]
  have k : ∀ j, (L.push false).getD j false = L.getD j false := fun j => by
    rcases Nat.lt_or_ge j L.size with h | h
    · exact push_at _ _ _ h
    · rw [(push_end L j h).1, (push_end L j h).2]
  simp only [e, k]

/-- What the check says. -/
structure LastOk (l : List Oper) (n : Nat) (o : Oper) : Prop where
  len : l.length = n + 1
  at' : l[n]? = some o
  bare : ∀ x ∈ l, x.guard = none
  up : ∀ i x, i < n → l[i]? = some x → ∀ e ∈ x.after, Region.binds .any e = true → e.on < i
  low : ∀ e ∈ o.after, Region.binds .any e = true → e.on < n
  all : ∀ i, i < n → waits l n i = true ∨ ∃ j, i < j ∧ j < n ∧ waits l j i = true

theorem lastOk {l : List Oper} {n : Nat} {o : Oper} (h : lastB l n = true) (hl : l.length = n + 1) (ho : l[n]? = some o) : LastOk l n o := by
  unfold lastB at h
  simp only [Bool.and_eq_true, ho] at h
  obtain ⟨⟨h1, h2⟩, h3, h4⟩ := h
  refine ⟨hl, ho, fun x hx => by simpa using List.all_eq_true.1 h1 x hx, fun i x hi hx e he hb => ?_, fun e he hb => ?_, fun i hi => ?_⟩
  · have h5 := List.all_eq_true.1 h2 i (List.mem_range.2 hi)
    simp only [hx] at h5
    have h6 := Array.all_eq_true'.1 h5 e he
    simpa [hb] using h6
  · have h6 := Array.all_eq_true'.1 h3 e he
    simpa [hb] using h6
  · have h5 := List.all_eq_true.1 h4 i (List.mem_range.2 hi)
    simp only [Bool.or_eq_true] at h5
    rcases h5 with h5 | h5
    · exact .inl h5
    · obtain ⟨j, hj, hw⟩ := List.any_eq_true.1 h5
      simp only [Bool.and_eq_true, decide_eq_true_eq] at hw
      exact .inr ⟨j, hw.1, List.mem_range.1 hj, hw.2⟩

/-- What is listed waits for nothing that isn't. -/
def Clo (l : List Oper) (n : Nat) (L : Array Bool) : Prop := ∀ j x, j < n → l[j]? = some x → L.getD j false = true → ∀ e ∈ x.after, Region.binds .any e = true → L.getD e.on false = true

theorem set_true {L : Array Bool} {i j : Nat} (h : L.getD j false = true) : (L.setIfInBounds i true).getD j false = true := by
  by_cases hij : i = j
  · subst hij
    have hlt : i < L.size := by
      rcases Nat.lt_or_ge i L.size with h' | h'
      · exact h'
      · rw [(push_end L i h').2] at h; cases h
    rw [Array.getD_eq_getD_getElem?, Array.getElem?_setIfInBounds_self_of_lt hlt]
    rfl
  · rw [Array.getD_eq_getD_getElem?, Array.getElem?_setIfInBounds_ne hij, ← Array.getD_eq_getD_getElem?]
    exact h

theorem Clo.set {l : List Oper} {n : Nat} {L : Array Bool} (h : Clo l n L) {i : Nat} (hi : i ∈ Region.ready .any (l.take n).toArray L) : Clo l n (L.setIfInBounds i true) := by
  intro j x hj hx hl e he hb
  by_cases hij : i = j
  · subst hij
    obtain ⟨_, y, hy, hall⟩ := mem_ready.1 hi
    have e1 : (l.take n).toArray[i]? = some x := by simp [hj, hx]
    obtain rfl : x = y := Option.some.inj (e1.symm.trans hy)
    exact set_true (hall e he hb)
  · rw [Array.getD_eq_getD_getElem?, Array.getElem?_setIfInBounds_ne hij, ← Array.getD_eq_getD_getElem?] at hl
    exact set_true (h j x hj hx hl e he hb)

section
variable {l : List Oper} {n : Nat} {o : Oper}

/-- Where one is not listed, one may come up. -/
theorem some_ready (h : LastOk l n o) (L : Array Bool) (hL : L.size = n) : ∀ i, i < n → L.getD i false = false → ∃ j, j < n ∧ j ∈ Region.ready .any (l.take n).toArray L := by
  intro i
  induction i using Nat.strongRecOn with
  | _ i ih =>
    intro hi hf
    have hlen := h.len
    obtain ⟨x, hx⟩ : ∃ x, l[i]? = some x := ⟨_, List.getElem?_eq_getElem (by omega)⟩
    by_cases hr : ∀ e ∈ x.after, Region.binds .any e = true → L.getD e.on false = true
    · refine ⟨i, hi, mem_ready.2 ⟨by rw [in_both (by omega)]; exact hf, x, by simp [hi, hx], hr⟩⟩
    · obtain ⟨e, he, hb, hne⟩ : ∃ e, ∃ _ : e ∈ x.after, ∃ _ : Region.binds .any e = true, ¬ L.getD e.on false = true := by
        simpa only [Classical.not_forall] using hr
      have hlt := h.up i x hi hx e he hb
      exact ih e.on hlt (by omega) (by simpa using hne)

/-- The last may come up just if all others are listed. -/
theorem last_ready (h : LastOk l n o) (L : Array Bool) (hL : L.size = n) (hc : Clo l n L) : n ∈ Region.ready .any l.toArray (L.push false) ↔ ∀ i, i < n → L.getD i false = true := by
  rw [mem_ready]
  constructor
  · rintro ⟨_, x, hx, hall⟩
    have ex : x = o := by
      have h1 := h.at'
      simp at hx
      rw [hx] at h1
      exact Option.some.inj h1
    subst ex
    have key : ∀ d i, n - i = d → i < n → L.getD i false = true := by
      intro d
      induction d using Nat.strongRecOn with
      | _ d ih =>
        intro i hd hi
        rcases h.all i hi with hw | ⟨j, hij, hj, hw⟩
        · obtain ⟨y, hy, e, he, hb, hon⟩ := waits_spec hw
          have ey : y = x := Option.some.inj (hy.symm.trans h.at')
          subst ey
          have := hall e he hb
          rwa [hon, push_at _ _ _ (by omega)] at this
        · obtain ⟨y, hy, e, he, hb, hon⟩ := waits_spec hw
          have := hc j y hj hy (ih (n - j) (by omega) j rfl hj) e he hb
          rwa [hon] at this
    exact fun i hi => key _ i rfl hi
  · intro hall
    refine ⟨by subst hL; rw [Array.getD_eq_getD_getElem?, Array.getElem?_push_size]; rfl, o, by simpa using h.at', fun e he hb => ?_⟩
    have := h.low e he hb
    rw [push_at _ _ _ (by omega)]
    exact hall _ this

theorem in_range (h : LastOk l n o) (L : Array Bool) {i : Nat} (hi : i ∈ Region.ready .any l.toArray L) : i < n ∨ i = n := by
  obtain ⟨_, x, hx, _⟩ := mem_ready.1 hi
  have := (Array.getElem?_eq_some_iff.1 hx).1
  have h1 := h.len
  simp at this
  omega

/-- Behind the last nothing is left. -/
theorem none_left (h : LastOk l n o) (L : Array Bool) (hL : L.size = n) (hall : ∀ i, i < n → L.getD i false = true) : Region.ready .any l.toArray ((L.push false).setIfInBounds n true) = [] := by
  rw [List.eq_nil_iff_forall_not_mem]
  intro i hi
  have h1 := (mem_ready.1 hi).1
  rcases in_range h _ hi with h2 | h2
  · rw [Array.getD_eq_getD_getElem?, Array.getElem?_setIfInBounds_ne (by omega), ← Array.getD_eq_getD_getElem?, push_at _ _ _ (by omega), in_both (by omega), hall i h2] at h1
    cases h1
  · subst h2
    rw [Array.getD_eq_getD_getElem?, Array.getElem?_setIfInBounds_self_of_lt (by simp [hL])] at h1
    cases h1

theorem all_or (L : Array Bool) (n : Nat) : (∀ i, i < n → L.getD i false = true) ∨ ∃ i, i < n ∧ L.getD i false = false := by
  by_cases h : ∃ i, i < n ∧ L.getD i false = false
  · exact .inr h
  · refine .inl fun i hi => ?_
    cases hb : L.getD i false with
    | true => rfl
    | false => exact absurd ⟨i, hi, hb⟩ h

variable {C : World → Prop} {Q : Exit → Act → World → Prop}

theorem last_op (h : LastOk l n o) (L : Array Bool) (hL : L.size = n) (hall : ∀ i, i < n → L.getD i false = true) {a : Act} {w : World} (hw : wpList P l.toArray Q [o] a w) (f : Nat) :
    wpOp P l.toArray Q n (wpAny P .any l.toArray Q f ((L.push false).setIfInBounds n true)) a w := by
  have h0 : l.toArray[n]? = some o := by simpa using h.at'
  have h1 : wpOp P l.toArray Q n (wpList P l.toArray Q []) a w := by
    unfold wpOp
    simp only [h0]
    exact hw
  refine wpOp_mono (fun a' w' hq => ?_) h1
  have hr := none_left h L hL hall
  cases f with
  | zero => exact ⟨hr, hq⟩
  | succ f => exact ⟨fun _ => hq, fun i hi => by rw [hr] at hi; cases hi⟩

theorem wp_to_last (h : LastOk l n o) : ∀ (f : Nat) (L : Array Bool) (a : Act) (w : World), L.size = n → Clo l n L → C w →
    wpAnyQ P .any (l.take n).toArray C (fun a' => ∀ w', C w' → wpList P l.toArray Q [o] a' w') f L a → wpAny P .any l.toArray Q (f + 1) (L.push false) a w := by
  have hlen := h.len
  intro f
  induction f with
  | zero =>
    intro L a w hL hc hC hq
    have hall : ∀ i, i < n → L.getD i false = true := by
      rcases all_or L n with h1 | ⟨i, hi, hf⟩
      · exact h1
      · obtain ⟨j, _, hj⟩ := some_ready h L hL i hi hf
        rw [hq.1] at hj
        cases hj
    refine ⟨fun h0 => ?_, fun i hi => ?_⟩
    · have := (last_ready h L hL hc).2 hall
      rw [h0] at this
      cases this
    · rcases in_range h _ hi with h2 | rfl
      · have := (ready_head L hL i h2).1 hi
        rw [hq.1] at this
        cases this
      · exact last_op h L hL hall (hq.2 w hC) 0
  | succ f ih =>
    intro L a w hL hc hC hq
    refine ⟨fun h0 => ?_, fun i hi => ?_⟩
    · rcases all_or L n with hall | ⟨i, hi, hf⟩
      · have := (last_ready h L hL hc).2 hall
        rw [h0] at this
        cases this
      · obtain ⟨j, hj, hjr⟩ := some_ready h L hL i hi hf
        have := (ready_head (l := l) L hL j hj).2 hjr
        rw [h0] at this
        cases this
    · rcases in_range h _ hi with h2 | rfl
      · have h3 := hq.2 i ((ready_head L hL i h2).1 hi)
        have h4 : wpOp P (l.take n).toArray Q i (wpAny P .any l.toArray Q (f + 1) ((L.setIfInBounds i true).push false)) a w :=
          wpOp_of_qOp hC (fun a' w' hw' hk => ih (L.setIfInBounds i true) a' w' (by simp [hL]) (hc.set ((ready_head L hL i h2).1 hi)) hw' hk) h3
        have e : (L.push false).setIfInBounds i true = (L.setIfInBounds i true).push false := by
          apply Array.ext_getElem?
          intro j
          by_cases hj : j = i
          · subst hj
            rw [Array.getElem?_setIfInBounds_self_of_lt (by simp; omega), Array.getElem?_push_lt (by simp; omega)]
            simp
          · rw [Array.getElem?_setIfInBounds_ne (by omega), Array.getElem?_push, Array.getElem?_push, Array.getElem?_setIfInBounds_ne (by omega)]
            simp
        rw [e]
        obtain ⟨x, hx⟩ : ∃ x, l[i]? = some x := ⟨_, List.getElem?_eq_getElem (by omega)⟩
        have hb : x.guard = none := h.bare x (List.mem_of_getElem? hx)
        have w1 : ∀ y, Region.wanted x y = true := fun y => by unfold Region.wanted; rw [hb]
        have e1 : (l.take n).toArray[i]? = some x := by simp [h2, hx]
        have e2 : l.toArray[i]? = some x := by simp [hx]
        unfold wpOp at h4 ⊢
        simp only [e1, w1, if_true] at h4
        simp only [e2, w1, if_true]
        exact h4
      · have hall := (last_ready h L hL hc).1 hi
        have hr : Region.ready .any (l.take i).toArray L = [] := by
          rw [List.eq_nil_iff_forall_not_mem]
          intro j hj
          obtain ⟨h1, x, hx, _⟩ := mem_ready.1 hj
          have hlt := (Array.getElem?_eq_some_iff.1 hx).1
          simp at hlt
          rw [in_both (by omega), hall j (by omega)] at h1
          cases h1
        exact last_op h L hL hall (hq.1 hr w hC) (f + 1)
end

theorem rep_false (m j : Nat) : (Array.replicate m false).getD j false = false := by
  simp only [Array.getD_eq_getD_getElem?, Array.getElem?_replicate]
  split <;> rfl

/-- A region that draws its order: its last operation waits for all the others, which are quiet in the worlds of a family. -/
theorem wp_region_last {id : Nat} {Q : Exit → Act → World → Prop} {a : Act} {w : World} {l : List Oper} {α : Type} (n : Nat) {o : Oper} (f : α → World) (hm : P.follows .mixedOrders = true) (hB : lastB l n = true) (hB' : Region.lexB .any (l.take n).toArray = true) (hl : l.length = n + 1) (ho : l[n]? = some o)
    (p0 : α) (h0 : f p0 = w.drew) (h : wpQuiet P (l.take n).toArray (fun w' => ∃ p, w' = f p) (fun a' => ∀ w', (∃ p, w' = f p) → wpList P l.toArray Q [o] a' w') (l.take n) a) : (Code.region id l.toArray true).wp P Q a w := by
  refine wp_region_any hm ?_
  simp only [Region.lexB, Bool.and_eq_true] at hB'
  have hn : (l.take n).length = n := by simp; omega
  have H := wpAnyQ_lex (C := fun w' => ∃ p, w' = f p) (md := .any) hB'.1 (l.take n) 0 (Array.replicate (l.take n).length false) a (by simp) (by simpa using hB'.2) h
  have H2 := wp_to_last (P := P) (Q := Q) (lastOk hB hl ho) (l.take n).length (Array.replicate (l.take n).length false) a w.drew (by simp; omega) (fun j x _ _ hl => by rw [rep_false] at hl; cases hl) ⟨p0, h0.symm⟩ H
  rw [hn] at H2
  have e : Array.replicate l.toArray.size false = (Array.replicate n false).push false := by
    simp [hl, Array.replicate_succ]
  rw [e, show l.toArray.size = n + 1 by simp [hl]]
  exact H2
end
end Go.Proofs.YtmjokinagbpihaaDoor
