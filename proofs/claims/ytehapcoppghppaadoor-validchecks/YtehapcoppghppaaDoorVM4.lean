/- Measuring rows of stands. -/
import Derived.Test.YtehapcoppghppaaDoorVM3
namespace Go.Proofs.YtehapcoppghppaaDoor
open Go.RowKit

def upd (G : Nat → Int) (t : Nat) (x : Int) : Nat → Int := fun j => if j = t then x else G j
theorem upd_self (G : Nat → Int) (t : Nat) (x : Int) : upd G t x t = x := by simp [upd]
theorem upd_ne (G : Nat → Int) {t j : Nat} (x : Int) (h : j ≠ t) : upd G t x j = G j := by simp [upd, h]

/-- What is known of the units is right. -/
def UInv (l : List Ins) (G : Nat → Int) : Prop := ∀ i, G i ≠ 0 → G i = un l i

/-- The row at hand, the top first: each of those below comes to it. -/
def Stk (l : List Ins) : List Nat → Prop
  | [] => True
  | s :: r => (∀ t ∈ r, t ≠ s ∧ Pls l t s) ∧ Stk l r

structure MInv (l : List Ins) (G : Nat → Int) (rs : List Nat) : Prop where
  stk : Stk l rs
  val : ∀ i, G i ≠ 0 → i ∈ rs ∨ G i = un l i
  inf : ∀ t ∈ rs, G t = INF
  rch : ∀ t ∈ rs, Rch l t

theorem INF_ne : INF ≠ 0 := by decide

theorem MInv.start {l : List Ins} {G : Nat → Int} {n : Nat} (h : UInv l G) (hr : Rch l n) : MInv l (upd G n INF) [n] where
  stk := ⟨fun t ht => absurd ht List.not_mem_nil, trivial⟩
  val := fun i hi => by
    by_cases e : i = n
    · exact .inl (by simp [e])
    · rw [upd_ne G INF e] at hi ⊢
      exact .inr (h i hi)
  inf := fun t ht => by rw [List.mem_singleton.mp ht]; exact upd_self _ _ _
  rch := fun t ht => by rw [List.mem_singleton.mp ht]; exact hr

theorem MInv.push {l : List Ins} {G : Nat → Int} {s u : Nat} {r : List Nat} (h : MInv l G (s :: r)) (hu : u ∈ nx l s) (h0 : G u = 0) : MInv l (upd G u INF) (u :: s :: r) where
  stk := ⟨fun t ht => by
    refine ⟨fun e => ?_, ?_⟩
    · have := h.inf t ht
      rw [e, h0] at this
      exact INF_ne this.symm
    · rcases List.mem_cons.mp ht with rfl | ht
      · exact .one hu
      · exact .more (h.stk.1 t ht).2 hu, h.stk⟩
  val := fun i hi => by
    by_cases e : i = u
    · exact .inl (by simp [e])
    · rw [upd_ne G INF e] at hi ⊢
      rcases h.val i hi with h1 | h1
      · exact .inl (List.mem_cons_of_mem _ h1)
      · exact .inr h1
  inf := fun t ht => by
    by_cases e : t = u
    · rw [e]; exact upd_self _ _ _
    · rw [upd_ne G INF e]
      rcases List.mem_cons.mp ht with h1 | h1
      · exact absurd h1 e
      · exact h.inf t h1
  rch := fun t ht => by
    rcases List.mem_cons.mp ht with rfl | ht
    · exact .step (h.rch s (by simp)) (List.mem_filter.mp hu).1
    · exact h.rch t ht

theorem MInv.popF {l : List Ins} {G : Nat → Int} {s : Nat} {r : List Nat} {m : Int} (h : MInv l G (s :: r)) (hu : un l s = m) : MInv l (upd G s m) r where
  stk := h.stk.2
  val := fun i hi => by
    by_cases e : i = s
    · rw [e, upd_self]; exact .inr hu.symm
    · rw [upd_ne G m e] at hi ⊢
      rcases h.val i hi with h1 | h1
      · rcases List.mem_cons.mp h1 with h1 | h1
        · exact absurd h1 e
        · exact .inl h1
      · exact .inr h1
  inf := fun t ht => by
    rw [upd_ne G m (h.stk.1 t ht).1]
    exact h.inf t (List.mem_cons_of_mem _ ht)
  rch := fun t ht => h.rch t (List.mem_cons_of_mem _ ht)

theorem MInv.popE {l : List Ins} {G : Nat → Int} {s : Nat} {r : List Nat} (h : MInv l G (s :: r)) (hu : un l s = INF) : MInv l G r where
  stk := h.stk.2
  val := fun i hi => by
    rcases h.val i hi with h1 | h1
    · rcases List.mem_cons.mp h1 with h1 | h1
      · rw [h1]; exact .inr ((h.inf s (by simp)).trans hu.symm)
      · exact .inl h1
    · exact .inr h1
  inf := fun t ht => h.inf t (List.mem_cons_of_mem _ ht)
  rch := fun t ht => h.rch t (List.mem_cons_of_mem _ ht)

/-- What is found out of those that follow. -/
theorem MInv.endless {l : List Ins} {G : Nat → Int} {s : Nat} {r : List Nat} (ok : Ok l) (h : MInv l G (s :: r)) (hat : ∃ t ∈ nx l s, G t = INF) : un l s = INF := by
  obtain ⟨t, ht, he⟩ := hat
  rcases h.val t (by rw [he]; exact INF_ne) with h1 | h1
  · rcases List.mem_cons.mp h1 with rfl | h1
    · exact un_ring (.one ht)
    · exact un_ring (Pls.head ht (h.stk.1 t h1).2)
  · exact un_endless ht (h1.symm.trans he) ok
theorem MInv.ended {l : List Ins} {G : Nat → Int} {s : Nat} {r : List Nat} {m : Int} (h : MInv l G (s :: r)) (h0 : 0 ≤ m) (hm : m < INF) (hk : ∀ t ∈ nx l s, G t ≠ 0 ∧ G t ≤ m) (hat : m = 0 ∨ ∃ t ∈ nx l s, G t = m) : un l s = m + 1 := by
  have key : ∀ t ∈ nx l s, G t = un l t := fun t ht => by
    rcases h.val t (hk t ht).1 with h1 | h1
    · have := h.inf t h1
      have := (hk t ht).2
      omega
    · exact h1
  refine un_next h0 hm (fun t ht => by rw [← key t ht]; exact (hk t ht).2) ?_
  rcases hat with h1 | ⟨t, ht, h1⟩
  · exact .inl h1
  · exact .inr ⟨t, ht, by rw [← key t ht]; exact h1⟩
theorem MInv.done {l : List Ins} {G : Nat → Int} (h : MInv l G []) : UInv l G := fun i hi => by
  rcases h.val i hi with h1 | h1
  · cases h1
  · exact h1

/-- How many are not known yet. -/
def nz (G : Nat → Int) : Nat → Bool := fun i => decide (G i ≠ 0)
theorem nz_push {G : Nat → Int} {t : Nat} {x : Int} (hx : x ≠ 0) (h : G t = 0) (M : Nat) (ht : t < M) : left (nz (upd G t x)) M + 1 = left (nz G) M := by
  rw [← left_mark (f := nz G) (t := t) (by simp [nz, h]) M ht]
  congr 1
  refine left_same M (fun i _ => ?_)
  unfold nz upd mark
  by_cases e : i = t
  · simp [e, hx]
  · simp [e]
theorem nz_keep {G : Nat → Int} {t : Nat} {x : Int} (hx : x ≠ 0) (h : G t ≠ 0) (M : Nat) : left (nz (upd G t x)) M = left (nz G) M := by
  refine left_same M (fun i _ => ?_)
  unfold nz upd
  by_cases e : i = t
  · simp [e, hx, h]
  · simp [e]

/-- Those that follow, as numbers: with a lock. -/
theorem nx_num {l : List Ins} {p s : Nat} (hs : s < 256) (hw : wrP l p s = 0) (hf : ∀ t ∈ folP l p s, t.2 < 256) (n : Nat) : n ∈ nx l (256 * p + s) ↔ ∃ t ∈ folP l p s, t.2 ≠ 0 ∧ num t = n := by
  unfold nx
  rw [List.mem_filter, nxt_num l hs hw, List.mem_map]
  constructor
  · rintro ⟨⟨t, ht, rfl⟩, h⟩
    refine ⟨t, ht, ?_, rfl⟩
    have := num_mod (hf t ht)
    simp only [decide_eq_true_eq] at h
    omega
  · rintro ⟨t, ht, h, rfl⟩
    refine ⟨⟨t, ht, rfl⟩, ?_⟩
    have := num_mod (hf t ht)
    simp only [decide_eq_true_eq]
    omega
end Go.Proofs.YtehapcoppghppaaDoor
