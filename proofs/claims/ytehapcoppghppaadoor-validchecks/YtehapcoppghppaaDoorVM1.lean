/- The stands of a program: which follow, which are wrong, to which one comes; how long rows are. -/
import Derived.Test.YtehapcoppghppaaDoorCM1
import Derived.Deep.LoopGhost
namespace Go.Proofs.YtehapcoppghppaaDoor
open Go.RowKit

/-- A set with a lock, and without it. -/
def upS (s k : Nat) : Nat := s ||| 2 ^ k
def dnS (s k : Nat) : Nat := s - s / 2 ^ k % 2 * 2 ^ k

/-- What is wrong with an instruction while a set of locks is held. -/
def wrX (x : Ins) (s : Nat) : Int :=
  if x.op = 29 then (if s / 2 ^ x.imm.toNat = 0 then 0 else 14)
  else if x.op = 30 then (if s / 2 ^ x.imm.toNat % 2 = 0 then 14 else 0)
  else if x.op = 24 ∨ x.op = 25 ∨ x.op = 28 then (if s = 0 then 0 else 16) else 0

/-- The stands that follow. -/
def folX (x : Ins) (p s : Nat) : List (Nat × Nat) :=
  if x.op = 0 then [] else if x.op = 22 then [(x.imm.toNat, s)] else if x.op = 23 then [(x.imm.toNat, s), (p + 1, s)]
  else if x.op = 29 then [(p + 1, upS s x.imm.toNat)] else if x.op = 30 then [(p + 1, dnS s x.imm.toNat)] else [(p + 1, s)]

def num (t : Nat × Nat) : Nat := 256 * t.1 + t.2
def wrP (l : List Ins) (p s : Nat) : Int := if l.length ≤ p then 0 else wrX (l.getD p default) s
def folP (l : List Ins) (p s : Nat) : List (Nat × Nat) := if l.length ≤ p then [] else folX (l.getD p default) p s

def wrE (l : List Ins) (n : Nat) : Int := wrP l (n / 256) (n % 256)
def nxt (l : List Ins) (n : Nat) : List Nat := if wrE l n = 0 then (folP l (n / 256) (n % 256)).map num else []

/-- The stands of a program. -/
inductive Rch (l : List Ins) : Nat → Prop where
  | zero : Rch l 0
  | step {n t : Nat} : Rch l n → t ∈ nxt l n → Rch l t

/-- A program that may be. -/
structure Ok (l : List Ins) : Prop where
  len : l.length ≤ 256
  jmp : ∀ p, p < l.length → (l.getD p default).op = 22 ∨ (l.getD p default).op = 23 → 0 ≤ (l.getD p default).imm ∧ (l.getD p default).imm ≤ l.length
  lck : ∀ p, p < l.length → (l.getD p default).op = 29 ∨ (l.getD p default).op = 30 → 0 ≤ (l.getD p default).imm ∧ (l.getD p default).imm < 8

theorem ok_of_may {l : List Ins} {k : Int} (h : (mayL l k).1 = 0) : Ok l ∧ 0 ≤ k ∧ k ≤ 8 ∧ mayL l k = (0, 0) ∧ ∀ p, p < l.length → (l.getD p default).op = 29 ∨ (l.getD p default).op = 30 → (l.getD p default).imm < k := by
  unfold mayL at h ⊢
  split at h
  · cases h
  · next h1 =>
    split at h
    · cases h
    · next h2 =>
      rw [if_neg h1, if_neg h2]
      have hz := firstE_zero _ _ l 0 h
      have hi : ∀ p, p < l.length → immE (l.getD p default).op (l.getD p default).imm l.length k = 0 := fun p hp => (wrong_ok (hz p hp)).2.2.2.2.2
      have hk : ∀ p, p < l.length → (l.getD p default).op = 29 ∨ (l.getD p default).op = 30 → 0 ≤ (l.getD p default).imm ∧ (l.getD p default).imm < k := fun p hp ho => by
        have := hi p hp
        have h3 : hI (l.getD p default).op = true := by rcases ho with e | e <;> rw [e] <;> rfl
        unfold immE at this
        rw [if_pos h3, if_neg (by omega), if_pos ho] at this
        split at this
        · assumption
        · cases this
      refine ⟨⟨by omega, fun p hp ho => ?_, fun p hp ho => ?_⟩, by omega, by omega, firstE_none _ _ l 0 hz, fun p hp ho => (hk p hp ho).2⟩
      · have := hi p hp
        have h3 : hI (l.getD p default).op = true := by rcases ho with e | e <;> rw [e] <;> rfl
        unfold immE at this
        rw [if_pos h3, if_pos ho] at this
        split at this
        · assumption
        · cases this
      · have := hk p hp ho
        omega

theorem upS_lt {s k : Nat} (hs : s < 256) (hk : k < 8) : upS s k < 256 := by
  unfold upS
  exact Nat.or_lt_two_pow (n := 8) hs (Nat.pow_lt_pow_right (by decide) hk)
theorem upS_pos (s k : Nat) : 0 < upS s k := by
  unfold upS
  have h1 : 2 ^ k ≤ s ||| 2 ^ k := Nat.right_le_or
  have h2 : 0 < 2 ^ k := Nat.two_pow_pos k
  omega
theorem dnS_le (s k : Nat) : dnS s k ≤ s := by unfold dnS; omega

theorem folP_lt {l : List Ins} (ok : Ok l) {p s : Nat} (hs : s < 256) {t : Nat × Nat} (ht : t ∈ folP l p s) : t.1 ≤ l.length ∧ t.2 < 256 := by
  unfold folP at ht
  split at ht
  · cases ht
  · next hp =>
    have hp : p < l.length := by omega
    unfold folX at ht
    split at ht
    · cases ht
    split at ht
    · next e =>
      have := ok.jmp p hp (.inl e)
      simp only [List.mem_singleton] at ht
      subst ht
      exact ⟨by simp only; omega, hs⟩
    split at ht
    · next e =>
      have := ok.jmp p hp (.inr e)
      simp only [List.mem_cons, List.not_mem_nil, or_false] at ht
      rcases ht with rfl | rfl
      · exact ⟨by simp only; omega, hs⟩
      · exact ⟨by simp only; omega, hs⟩
    split at ht
    · next e =>
      have := ok.lck p hp (.inl e)
      simp only [List.mem_singleton] at ht
      subst ht
      exact ⟨by simp only; omega, upS_lt hs (by omega)⟩
    split at ht
    · simp only [List.mem_singleton] at ht
      subst ht
      have := dnS_le s (l.getD p default).imm.toNat
      exact ⟨by simp only; omega, by simp only; omega⟩
    · simp only [List.mem_singleton] at ht
      subst ht
      exact ⟨by simp only; omega, hs⟩

theorem num_div {t : Nat × Nat} (h : t.2 < 256) : num t / 256 = t.1 := by unfold num; omega
theorem num_mod {t : Nat × Nat} (h : t.2 < 256) : num t % 256 = t.2 := by unfold num; omega
theorem wrE_num (l : List Ins) {p s : Nat} (h : s < 256) : wrE l (256 * p + s) = wrP l p s := by
  unfold wrE
  rw [show (256 * p + s) / 256 = p by omega, show (256 * p + s) % 256 = s by omega]
theorem nxt_num (l : List Ins) {p s : Nat} (h : s < 256) (hw : wrP l p s = 0) : nxt l (256 * p + s) = (folP l p s).map num := by
  unfold nxt
  rw [wrE_num l h, if_pos hw, show (256 * p + s) / 256 = p by omega, show (256 * p + s) % 256 = s by omega]

theorem nxt_lt {l : List Ins} (ok : Ok l) {n t : Nat} (ht : t ∈ nxt l n) : t < 256 * (l.length + 1) := by
  unfold nxt at ht
  split at ht
  · obtain ⟨u, hu, rfl⟩ := List.mem_map.mp ht
    have := folP_lt ok (Nat.mod_lt n (by decide)) hu
    unfold num
    omega
  · cases ht

theorem Rch.lt {l : List Ins} (ok : Ok l) {n : Nat} (h : Rch l n) : n < 256 * (l.length + 1) := by
  cases h with
  | zero => omega
  | step _ ht => exact nxt_lt ok ht

theorem wrE_place {l : List Ins} {n : Nat} (h : wrE l n ≠ 0) : n / 256 < l.length := by
  unfold wrE wrP at h
  split at h
  · exact absurd rfl h
  · omega

/-- Two wrong ones at one place have one error. -/
theorem wrX_one {x : Ins} {s t : Nat} (h : wrX x s ≠ 0) (h' : wrX x t ≠ 0) : wrX x s = wrX x t := by
  unfold wrX at *
  split
  · next e =>
    rw [if_pos e] at h h'
    split at h
    · exact absurd rfl h
    · next e1 =>
      split at h'
      · exact absurd rfl h'
      · next e2 => rw [if_neg e1, if_neg e2]
  · next e =>
    rw [if_neg e] at h h'
    split
    · next f =>
      rw [if_pos f] at h h'
      split at h
      · next e1 =>
        split at h'
        · next e2 => rw [if_pos e1, if_pos e2]
        · exact absurd rfl h'
      · exact absurd rfl h
    · next f =>
      rw [if_neg f] at h h'
      split
      · next g =>
        rw [if_pos g] at h h'
        split at h
        · exact absurd rfl h
        · next e1 =>
          split at h'
          · exact absurd rfl h'
          · next e2 => rw [if_neg e1, if_neg e2]
      · rfl

/-- The wrong stand of the least place. -/
def IsW (l : List Ins) (e : Int) (p : Nat) : Prop := (∃ n, Rch l n ∧ wrE l n = e ∧ n / 256 = p) ∧ e ≠ 0 ∧ ∀ m, Rch l m → wrE l m ≠ 0 → p ≤ m / 256

theorem IsW.unique {l : List Ins} {e e' : Int} {p p' : Nat} (h : IsW l e p) (h' : IsW l e' p') : e = e' ∧ p = p' := by
  obtain ⟨⟨n, h1, h2, h3⟩, h4, h5⟩ := h
  obtain ⟨⟨m, k1, k2, k3⟩, k4, k5⟩ := h'
  have a := h5 m k1 (by rw [k2]; exact k4)
  have b := k5 n h1 (by rw [h2]; exact h4)
  have c : p = p' := by omega
  refine ⟨?_, c⟩
  have hp := wrE_place (by rw [h2]; exact h4)
  have hq := wrE_place (by rw [k2]; exact k4)
  rw [← h2, ← k2]
  rw [← h2] at h4
  rw [← k2] at k4
  unfold wrE wrP at h4 k4 ⊢
  rw [if_neg (by omega)] at h4 k4
  rw [if_neg (by omega), if_neg (by omega)]
  have d : n / 256 = m / 256 := by omega
  rw [d] at h4 ⊢
  exact wrX_one h4 k4

/-- All stands that were met; those still to be looked at; the error so far. -/
structure Met (l : List Ins) (f : Nat → Bool) (todo : List Nat) (e : Int) (at_ : Nat) : Prop where
  rch : ∀ n, f n = true → Rch l n
  zero : f 0 = true
  todo' : ∀ t ∈ todo, f t = true
  done : ∀ n, f n = true → n ∈ todo ∨ ((∀ t ∈ nxt l n, f t = true) ∧ (wrE l n ≠ 0 → at_ ≤ n / 256 ∧ e ≠ 0))
  err : (e = 0 ∧ at_ = l.length) ∨ (e ≠ 0 ∧ ∃ n, Rch l n ∧ wrE l n = e ∧ n / 256 = at_)

theorem Met.all {l : List Ins} {f : Nat → Bool} {e : Int} {p : Nat} (h : Met l f [] e p) (n : Nat) : f n = true ↔ Rch l n := by
  refine ⟨h.rch n, fun hr => ?_⟩
  induction hr with
  | zero => exact h.zero
  | step _ ht ih =>
    rcases h.done _ ih with h1 | h1
    · cases h1
    · exact h1.1 _ ht

theorem Met.none {l : List Ins} {f : Nat → Bool} {e : Int} {p : Nat} (h : Met l f [] e p) (he : e = 0) : ∀ n, Rch l n → wrE l n = 0 := fun n hr => by
  rcases h.done n ((h.all n).mpr hr) with h1 | h1
  · cases h1
  · by_cases hw : wrE l n = 0
    · exact hw
    · exact absurd he (h1.2 hw).2

theorem Met.some {l : List Ins} {f : Nat → Bool} {e : Int} {p : Nat} (h : Met l f [] e p) (he : e ≠ 0) : IsW l e p := by
  rcases h.err with h1 | ⟨_, h1⟩
  · exact absurd h1.1 he
  · refine ⟨h1, he, fun m hm hw => ?_⟩
    rcases h.done m ((h.all m).mpr hm) with h2 | h2
    · cases h2
    · exact (h2.2 hw).1

/-- How many are not met yet. -/
def left (f : Nat → Bool) : Nat → Nat
  | 0 => 0
  | n + 1 => left f n + (if f n = true then 0 else 1)

def mark (f : Nat → Bool) (t : Nat) : Nat → Bool := fun n => if n = t then true else f n

theorem left_same {f g : Nat → Bool} : ∀ n, (∀ i, i < n → f i = g i) → left f n = left g n
  | 0, _ => rfl
  | n + 1, h => by
    unfold left
    rw [left_same n (fun i hi => h i (by omega)), h n (by omega)]

theorem left_mark {f : Nat → Bool} {t : Nat} (ht : f t = false) : ∀ n, t < n → left (mark f t) n + 1 = left f n
  | 0, h => absurd h (Nat.not_lt_zero t)
  | n + 1, h => by
    unfold left
    by_cases e : t = n
    · subst e
      rw [left_same (f := mark f t) (g := f) t (fun i hi => by unfold mark; rw [if_neg (by omega)])]
      simp [mark, ht]
    · have ih := left_mark ht n (by omega)
      have e' : mark f t n = f n := by unfold mark; rw [if_neg (by omega)]
      rw [e']
      omega

theorem left_le (f : Nat → Bool) : ∀ n, left f n ≤ n
  | 0 => Nat.le_refl _
  | n + 1 => by
    have := left_le f n
    unfold left
    split <;> omega
end Go.Proofs.YtehapcoppghppaaDoor
