/- Whoever runs a program that is taken. -/
import Derived.Test.YtehapcoppghppaaDoorVM6
namespace Go.Proofs.YtehapcoppghppaaDoor
open Go.RowKit

/-- So many steps from a to b, over stands with a lock. -/
inductive Pth (l : List Ins) (a : Nat) : Nat → Nat → Prop where
  | nil : Pth l a 0 a
  | cons {u b c : Nat} : Pth l a u b → c ∈ nx l b → Pth l a (u + 1) c

theorem Pth.row {l : List Ins} {a u b : Nat} (h : Pth l a u b) : ∀ k, row l k b → row l (u + k) a := by
  induction h with
  | nil => intro k hk; rwa [Nat.zero_add]
  | cons _ hc ih =>
    intro k hk
    have := ih (k + 1) ⟨_, hc, hk⟩
    rwa [show ∀ u : Nat, u + 1 + k = u + (k + 1) from fun u => by omega]

theorem Pth.le {l : List Ins} {a u b : Nat} (h : Pth l a u b) : (u : Int) + 1 ≤ un l a ∨ un l a = INF := by
  have hr := h.row 0 trivial
  rcases un_either l a with h1 | ⟨k, h1, h2, h3⟩
  · exact .inr h1.1
  · refine .inl ?_
    rcases Nat.lt_or_ge k u with h4 | h4
    · exact absurd (row_le l (by omega) hr) h2
    · omega

/-- A program that is taken. -/
structure Taken (l : List Ins) (k h : Int) : Prop where
  ok : Ok l
  h0 : 0 ≤ h
  h64 : h ≤ 64
  right : ∀ n, Rch l n → wrE l n = 0
  lck : ∀ p, p < l.length → (l.getD p default).op = 29 ∨ (l.getD p default).op = 30 → (l.getD p default).imm < k
  hold : ∀ p, p < l.length → isH l p → un l (st1 l p) ≤ h

theorem taken {l : List Ins} {k h : Int} (hc : (checkL l k h).1 = 0) : Taken l k h := by
  unfold checkL at hc
  split at hc
  · cases hc
  · next hh =>
    split at hc
    · next he => exact absurd hc he
    · next he =>
      have he : (erL l k).1 = 0 := by simpa using he
      by_cases hm : (mayL l k).1 = 0
      · obtain ⟨ok, _, _, _, hlk⟩ := ok_of_may hm
        refine ⟨ok, by omega, by omega, ?_, hlk, fun p hp hH => ?_⟩
        · have key : ∀ N n, n / 256 < N → Rch l n → wrE l n ≠ 0 → False := by
            intro N
            induction N with
            | zero => intro n hn; omega
            | succ N ih =>
              intro n hn hr hne
              by_cases hmin : ∀ m, Rch l m → wrE l m ≠ 0 → n / 256 ≤ m / 256
              · have := erL_wrong hm (e := wrE l n) (p := n / 256) ⟨⟨n, hr, rfl, rfl⟩, hne, hmin⟩
                rw [this] at he
                exact hne he
              · refine hmin fun m hm' hwm => Nat.le_of_not_lt fun hlt => ih m (by omega) hm' hwm
          exact fun n hn => Classical.byContradiction fun h => key (n / 256 + 1) n (by omega) hn h
        · rcases chk_spec h (spL l) with ⟨_, c2⟩ | ⟨pre, t, post, _, _, _, c4⟩
          · exact c2 _ (sp_mem_mk hH l.length hp)
          · rw [c4] at hc
            cases hc
      · rw [erL_may hm] at he
        exact absurd he hm

/-- How a run stands: the place, what it holds, the units so far. -/
structure Runs (l : List Ins) (h : Int) (p s u : Nat) : Prop where
  rch : Rch l (256 * p + s)
  s256 : s < 256
  pl : p ≤ l.length
  none : s = 0 → u = 0
  some : s ≠ 0 → ∃ n0, un l n0 ≤ h ∧ Pth l n0 u (256 * p + s)

theorem runs_start (l : List Ins) (h : Int) : Runs l h 0 0 0 := ⟨.zero, by decide, Nat.zero_le _, fun _ => rfl, fun e => absurd rfl e⟩

theorem Runs.units {l : List Ins} {k h : Int} {p s u : Nat} (T : Taken l k h) (r : Runs l h p s u) (hs : s ≠ 0) : (u : Int) + 1 ≤ h := by
  obtain ⟨n0, h1, h2⟩ := r.some hs
  rcases h2.le with h3 | h3
  · omega
  · have := T.h64
    rw [h3] at h1
    unfold INF at h1
    omega

theorem Runs.right {l : List Ins} {k h : Int} {p s u : Nat} (T : Taken l k h) (r : Runs l h p s u) : wrP l p s = 0 := by
  rw [← wrE_num l r.s256]
  exact T.right _ r.rch

theorem dnS_zero (k : Nat) : dnS 0 k = 0 := by simp [dnS]
theorem upS_zero (k : Nat) : upS 0 k = 2 ^ k := by simp [upS]

/-- One unit. -/
theorem Runs.step {l : List Ins} {k h : Int} {p s u : Nat} (T : Taken l k h) (r : Runs l h p s u) {t : Nat × Nat} (ht : t ∈ folP l p s) : Runs l h t.1 t.2 (if t.2 = 0 then 0 else if s = 0 then 0 else u + 1) := by
  have hw := r.right T
  have hlt := folP_lt T.ok r.s256 ht
  have hn : num t ∈ nxt l (256 * p + s) := by
    rw [nxt_num l r.s256 hw]
    exact List.mem_map.mpr ⟨t, ht, rfl⟩
  have hr : Rch l (256 * t.1 + t.2) := .step r.rch hn
  refine ⟨hr, hlt.2, hlt.1, fun e => if_pos e, fun e => ?_⟩
  rw [if_neg e]
  by_cases hs : s = 0
  · rw [if_pos hs]
    subst hs
    refine ⟨256 * t.1 + t.2, ?_, .nil⟩
    -- it is the first of a hold
    have hp : p < l.length := by
      unfold folP at ht
      split at ht
      · cases ht
      · omega
    unfold folP at ht
    rw [if_neg (by omega)] at ht
    have h29 : (l.getD p default).op = 29 := by
      refine Classical.byContradiction fun h29 => ?_
      unfold folX at ht
      rw [if_neg h29] at ht
      split at ht
      · cases ht
      split at ht
      · rw [List.mem_singleton] at ht; rw [ht] at e; exact e rfl
      split at ht
      · simp only [List.mem_cons, List.not_mem_nil, or_false] at ht
        rcases ht with rfl | rfl <;> exact e rfl
      split at ht
      · rw [List.mem_singleton] at ht; rw [ht] at e; exact e (dnS_zero _)
      · rw [List.mem_singleton] at ht; rw [ht] at e; exact e rfl
    have hH : isH l p := ⟨h29, r.rch⟩
    have h1 := T.hold p hp hH
    unfold folX at ht
    rw [if_neg (by omega), if_neg (by omega), if_neg (by omega), if_pos h29, List.mem_singleton] at ht
    rw [ht, upS_zero]
    exact h1
  · rw [if_neg hs]
    obtain ⟨n0, h1, h2⟩ := r.some hs
    refine ⟨n0, h1, .cons h2 (List.mem_filter.mpr ⟨hn, ?_⟩)⟩
    have := num_mod hlt.2
    simp only [decide_eq_true_eq]
    omega
end Go.Proofs.YtehapcoppghppaaDoor
