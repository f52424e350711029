/- Going through the stands, step by step. -/
import Derived.Test.YtehapcoppghppaaDoorVM2
namespace Go.Proofs.YtehapcoppghppaaDoor
open Go.RowKit

theorem Met.mem {l : List Ins} {f : Nat → Bool} {a b : List Nat} {e : Int} {p : Nat} (h : Met l f a e p) (hab : ∀ t, t ∈ a ↔ t ∈ b) : Met l f b e p where
  rch := h.rch
  zero := h.zero
  todo' := fun t ht => h.todo' t ((hab t).mpr ht)
  done := fun n hn => by
    rcases h.done n hn with h1 | h1
    · exact .inl ((hab n).mp h1)
    · exact .inr h1
  err := h.err

theorem met_start (l : List Ins) : Met l (mark (fun _ => false) 0) [0] 0 l.length where
  rch := fun n hn => by
    by_cases e : n = 0
    · rw [e]; exact .zero
    · simp [mark, e] at hn
  zero := rfl
  todo' := fun t ht => by simp at ht; rw [ht]; rfl
  done := fun n hn => by
    by_cases e : n = 0
    · rw [e]; simp
    · simp [mark, e] at hn
  err := .inl ⟨rfl, rfl⟩

theorem mark_true (f : Nat → Bool) (t n : Nat) (h : f n = true) : mark f t n = true := by
  unfold mark
  split
  · rfl
  · exact h
theorem mark_self (f : Nat → Bool) (t : Nat) : mark f t t = true := by simp [mark]
theorem mark_or {f : Nat → Bool} {t n : Nat} (h : mark f t n = true) : n = t ∨ f n = true := by
  unfold mark at h
  split at h
  · next e => exact .inl e
  · exact .inr h

theorem Met.push {l : List Ins} {f : Nat → Bool} {a : List Nat} {e : Int} {p c t : Nat} (h : Met l f a e p) (hc : f c = true) (ht : t ∈ nxt l c) : Met l (mark f t) (t :: a) e p where
  rch := fun n hn => by
    rcases mark_or hn with rfl | h1
    · exact .step (h.rch c hc) ht
    · exact h.rch n h1
  zero := mark_true f t 0 h.zero
  todo' := fun u hu => by
    rcases List.mem_cons.mp hu with rfl | hu
    · exact mark_self f u
    · exact mark_true f t u (h.todo' u hu)
  done := fun n hn => by
    rcases mark_or hn with rfl | h1
    · exact .inl (by simp)
    · rcases h.done n h1 with h2 | h2
      · exact .inl (by simp [h2])
      · exact .inr ⟨fun u hu => mark_true f t u (h2.1 u hu), h2.2⟩
  err := h.err

theorem Met.wrong_less {l : List Ins} {f : Nat → Bool} {a : List Nat} {e : Int} {p c : Nat} (h : Met l f (c :: a) e p) (hw : wrE l c ≠ 0) (hp : c / 256 < p) : Met l f a (wrE l c) (c / 256) where
  rch := h.rch
  zero := h.zero
  todo' := fun t ht => h.todo' t (by simp [ht])
  done := fun n hn => by
    have key : n = c → ((∀ t ∈ nxt l n, f t = true) ∧ (wrE l n ≠ 0 → c / 256 ≤ n / 256 ∧ wrE l c ≠ 0)) := by
      rintro rfl
      refine ⟨fun t ht => ?_, fun _ => ⟨Nat.le_refl _, hw⟩⟩
      unfold nxt at ht
      rw [if_neg hw] at ht
      cases ht
    rcases h.done n hn with h1 | h1
    · rcases List.mem_cons.mp h1 with h1 | h1
      · exact .inr (key h1)
      · exact .inl h1
    · exact .inr ⟨h1.1, fun hx => ⟨by have := (h1.2 hx).1; omega, hw⟩⟩
  err := .inr ⟨hw, c, h.rch c (h.todo' c (by simp)), rfl, rfl⟩

theorem Met.wrong_more {l : List Ins} {f : Nat → Bool} {a : List Nat} {e : Int} {p c : Nat} (h : Met l f (c :: a) e p) (hw : wrE l c ≠ 0) (hp : ¬ c / 256 < p) : Met l f a e p where
  rch := h.rch
  zero := h.zero
  todo' := fun t ht => h.todo' t (by simp [ht])
  done := fun n hn => by
    have key : n = c → ((∀ t ∈ nxt l n, f t = true) ∧ (wrE l n ≠ 0 → p ≤ n / 256 ∧ e ≠ 0)) := by
      rintro rfl
      refine ⟨fun t ht => ?_, fun _ => ⟨by omega, ?_⟩⟩
      · unfold nxt at ht
        rw [if_neg hw] at ht
        cases ht
      · rcases h.err with h1 | h1
        · have := wrE_place hw
          omega
        · exact h1.1
    rcases h.done n hn with h1 | h1
    · rcases List.mem_cons.mp h1 with h1 | h1
      · exact .inr (key h1)
      · exact .inl h1
    · exact .inr h1
  err := h.err

theorem Met.right {l : List Ins} {f : Nat → Bool} {a : List Nat} {e : Int} {p c : Nat} (h : Met l f (c :: a) e p) (hw : wrE l c = 0) (hn : ∀ t ∈ nxt l c, f t = true) : Met l f a e p where
  rch := h.rch
  zero := h.zero
  todo' := fun t ht => h.todo' t (by simp [ht])
  done := fun n hf => by
    rcases h.done n hf with h1 | h1
    · rcases List.mem_cons.mp h1 with rfl | h1
      · exact .inr ⟨hn, fun hx => absurd hw hx⟩
      · exact .inl h1
    · exact .inr h1
  err := h.err

/-- The place and the number of a stand that was met. -/
theorem Met.at_ {l : List Ins} {f : Nat → Bool} {a : List Nat} {e : Int} {p c : Nat} (ok : Ok l) (h : Met l f a e p) (hc : f c = true) : c < 256 * (l.length + 1) := (h.rch c hc).lt ok
theorem Met.place {l : List Ins} {f : Nat → Bool} {a : List Nat} {e : Int} {p : Nat} (h : Met l f a e p) : p ≤ l.length := by
  rcases h.err with h1 | ⟨h1, n, h2, h3, h4⟩
  · omega
  · have := wrE_place (l := l) (n := n) (by rw [h3]; exact h1)
    omega
end Go.Proofs.YtehapcoppghppaaDoor
