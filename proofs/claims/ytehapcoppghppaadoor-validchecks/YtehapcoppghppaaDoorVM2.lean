/- How long rows of stands with a lock are; the holds; the answers. -/
import Derived.Test.YtehapcoppghppaaDoorVM1
namespace Go.Proofs.YtehapcoppghppaaDoor
open Go.RowKit

/-- The stands with a lock that follow. -/
def nx (l : List Ins) (n : Nat) : List Nat := (nxt l n).filter fun t => decide (t % 256 ≠ 0)

/-- k more stands may follow, all with a lock. -/
def row (l : List Ins) : Nat → Nat → Prop
  | 0, _ => True
  | k + 1, n => ∃ t, t ∈ nx l n ∧ row l k t

theorem row_less (l : List Ins) : ∀ k n, row l (k + 1) n → row l k n
  | 0, _, _ => trivial
  | k + 1, n, h => by
    obtain ⟨t, ht, h⟩ := h
    exact ⟨t, ht, row_less l k t h⟩

theorem row_le (l : List Ins) {k m : Nat} (hm : m ≤ k) {n : Nat} (h : row l k n) : row l m n := by
  induction k with
  | zero => rw [show m = 0 by omega]; trivial
  | succ k ih =>
    by_cases e : m = k + 1
    · rw [e]; exact h
    · exact ih (by omega) (row_less l k n h)

/-- One comes from a to b, over stands with a lock. -/
inductive Pls (l : List Ins) (a : Nat) : Nat → Prop where
  | one {b : Nat} : b ∈ nx l a → Pls l a b
  | more {b c : Nat} : Pls l a b → c ∈ nx l b → Pls l a c

theorem Pls.head {l : List Ins} {a b c : Nat} (h : b ∈ nx l a) (hp : Pls l b c) : Pls l a c := by
  induction hp with
  | one h2 => exact .more (.one h) h2
  | more _ h2 ih => exact .more ih h2

theorem Pls.row {l : List Ins} {a b : Nat} (h : Pls l a b) : ∀ k, row l k b → row l (k + 1) a := by
  induction h with
  | one h => exact fun k hk => ⟨_, h, hk⟩
  | more h h2 ih => exact fun k hk => row_less l _ _ (ih (k + 1) ⟨_, h2, hk⟩)

theorem Pls.ring {l : List Ins} {a : Nat} (h : Pls l a a) : ∀ k, Go.Proofs.YtehapcoppghppaaDoor.row l k a
  | 0 => trivial
  | k + 1 => h.row k (Pls.ring h k)

def INF : Int := 9223372036854775807

open Classical in
/-- The units of the longest row from a stand on. -/
noncomputable def un (l : List Ins) (n : Nat) : Int := if ∃ k, ¬ row l k n then ((leastOf fun k => ¬ row l k n : Nat) : Int) else INF

theorem un_all {l : List Ins} {n : Nat} (h : ∀ k, row l k n) : un l n = INF := if_neg (fun ⟨k, hk⟩ => hk (h k))

theorem un_some {l : List Ins} {n k : Nat} (h1 : ¬ row l (k + 1) n) (h2 : row l k n) : un l n = (k : Int) + 1 := by
  unfold un
  rw [if_pos ⟨_, h1⟩]
  obtain ⟨h3, h4⟩ := leastOf_spec (p := fun k => ¬ row l k n) ⟨_, h1⟩
  have h5 := h4 _ h1
  have h6 : k + 1 ≤ leastOf fun k => ¬ row l k n := Nat.le_of_not_lt fun h => h3 (row_le l (by omega) h2)
  omega

/-- Either rows without an end, or so many. -/
theorem un_either (l : List Ins) (n : Nat) : (un l n = INF ∧ ∀ k, row l k n) ∨ ∃ k : Nat, un l n = (k : Int) + 1 ∧ ¬ row l (k + 1) n ∧ row l k n := by
  by_cases h : ∃ k, ¬ row l k n
  · obtain ⟨k, hk, hl⟩ := exists_least h
    cases k with
    | zero => exact absurd trivial hk
    | succ k =>
      have h2 : row l k n := Classical.byContradiction fun h3 => by have := hl k h3; omega
      exact .inr ⟨k, un_some hk h2, hk, h2⟩
  · have h2 : ∀ k, row l k n := fun k => Classical.byContradiction fun h3 => h ⟨k, h3⟩
    exact .inl ⟨un_all h2, h2⟩

theorem un_ring {l : List Ins} {a : Nat} (h : Pls l a a) : un l a = INF := un_all h.ring

/-- Rows as lists. -/
def ch (l : List Ins) : Nat → List Nat → Prop
  | _, [] => True
  | n, t :: r => t ∈ nx l n ∧ ch l t r

theorem row_ch (l : List Ins) : ∀ k n, row l k n → ∃ r, r.length = k ∧ ch l n r
  | 0, _, _ => ⟨[], rfl, trivial⟩
  | k + 1, n, h => by
    obtain ⟨t, ht, h⟩ := h
    obtain ⟨r, hr, hc⟩ := row_ch l k t h
    exact ⟨t :: r, by simp [hr], ht, hc⟩

theorem ch_pls {l : List Ins} : ∀ (r : List Nat) (n x : Nat), ch l n r → x ∈ r → Pls l n x
  | [], _, _, _, h => absurd h (List.not_mem_nil)
  | t :: r, n, x, hc, hx => by
    rcases List.mem_cons.mp hx with rfl | hx
    · exact .one hc.1
    · exact .head hc.1 (ch_pls r t x hc.2 hx)

theorem ch_nodup {l : List Ins} : ∀ (r : List Nat) (n : Nat), ch l n r → (∃ k, ¬ row l k n) → (n :: r).Nodup
  | [], n, _, _ => by simp
  | t :: r, n, hc, hk => by
    have h1 : ∃ k, ¬ row l k t := by
      obtain ⟨k, hk⟩ := hk
      exact ⟨k, fun h => hk (row_less l k n ⟨t, hc.1, h⟩)⟩
    have h2 := ch_nodup r t hc.2 h1
    refine List.nodup_cons.mpr ⟨fun hm => ?_, h2⟩
    obtain ⟨k, hk⟩ := hk
    exact hk ((ch_pls (l := l) (t :: r) n n hc hm).ring k)

theorem nodup_le : ∀ (m : Nat) (r : List Nat), r.Nodup → (∀ x ∈ r, x < m) → r.length ≤ m
  | 0, [], _, _ => Nat.le_refl _
  | 0, x :: r, _, h => absurd (h x (by simp)) (Nat.not_lt_zero x)
  | m + 1, r, hn, h => by
    have ih := nodup_le m (r.erase m) (hn.erase m) (fun x hx => by
      have h1 := (List.Nodup.mem_erase_iff hn).mp hx
      have := h x h1.2
      omega)
    have hl := List.length_erase (a := m) (l := r)
    split at hl <;> omega

theorem nx_lt {l : List Ins} (ok : Ok l) {n t : Nat} (h : t ∈ nx l n) : t < 256 * (l.length + 1) := nxt_lt ok (List.mem_filter.mp h).1

theorem ch_lt {l : List Ins} (ok : Ok l) : ∀ (r : List Nat) (n : Nat), ch l n r → ∀ x ∈ r, x < 256 * (l.length + 1)
  | [], _, _, x, hx => absurd hx List.not_mem_nil
  | t :: r, n, hc, x, hx => by
    rcases List.mem_cons.mp hx with rfl | hx
    · exact nx_lt ok hc.1
    · exact ch_lt ok r t hc.2 x hx

/-- What has an end has at most so many units as there are stands. -/
theorem un_le {l : List Ins} (ok : Ok l) {n : Nat} (h : un l n ≠ INF) : un l n ≤ 256 * (l.length + 1) + 1 := by
  rcases un_either l n with h1 | ⟨k, h1, h2, h3⟩
  · exact absurd h1.1 h
  · obtain ⟨r, hr, hc⟩ := row_ch l k n h3
    have h4 := (List.nodup_cons.mp (ch_nodup r n hc ⟨_, h2⟩)).2
    have h5 := nodup_le _ r h4 (ch_lt ok r n hc)
    omega

theorem un_pos (l : List Ins) (n : Nat) : 1 ≤ un l n := by
  rcases un_either l n with h1 | ⟨k, h1, _⟩
  · rw [h1.1]; decide
  · omega

theorem un_le_inf {l : List Ins} (ok : Ok l) (n : Nat) : un l n ≤ INF := by
  by_cases h : un l n = INF
  · omega
  · have := un_le ok h
    have := ok.len
    unfold INF
    omega

/-- Who is followed by one without an end has none. -/
theorem un_endless {l : List Ins} {n t : Nat} (h : t ∈ nx l n) (ht : un l t = INF) (ok : Ok l) : un l n = INF := by
  rcases un_either l t with h1 | ⟨k, h1, h2, _⟩
  · exact un_all fun k => row_less l k n ⟨t, h, h1.2 k⟩
  · have := un_le ok (n := t)
    rcases un_either l n with h3 | ⟨m, h3, h4, h5⟩
    · exact h3.1
    · exfalso
      have h6 : row l (m + 1) n → False := h4
      have := ok.len
      have h7 : un l t ≤ 256 * (l.length + 1) + 1 := by
        rcases Int.lt_or_le (k : Int) (256 * (l.length + 1) + 1) with h8 | h8
        · omega
        · exfalso
          obtain ⟨r, hr, hc⟩ := row_ch l k t (by assumption)
          have h9 := (List.nodup_cons.mp (ch_nodup r t hc ⟨_, h2⟩)).2
          have h10 := nodup_le _ r h9 (ch_lt ok r t hc)
          omega
      rw [ht] at h7
      unfold INF at h7
      omega

/-- Who is followed by such with an end alone has one more than the most of them. -/
theorem un_next {l : List Ins} {n : Nat} {m : Int} (h0 : 0 ≤ m) (hm : m < INF) (hle : ∀ t ∈ nx l n, un l t ≤ m) (hat : m = 0 ∨ ∃ t ∈ nx l n, un l t = m) : un l n = m + 1 := by
  obtain ⟨k, rfl⟩ : ∃ k : Nat, m = k := ⟨m.toNat, by omega⟩
  refine un_some (fun ⟨t, ht, hr⟩ => ?_) ?_
  · have h1 := hle t ht
    rcases un_either l t with h2 | ⟨j, h2, h3, _⟩
    · rw [h2.1] at h1; omega
    · exact h3 (row_le l (by omega) hr)
  · rcases hat with h | ⟨t, ht, h⟩
    · rw [show k = 0 by omega]; trivial
    · rcases un_either l t with h2 | ⟨j, h2, _, h4⟩
      · rw [h2.1] at h; omega
      · rw [show k = j + 1 by omega]
        exact ⟨t, ht, h4⟩

/-- A hold begins at a place; its units. -/
def isH (l : List Ins) (p : Nat) : Prop := (l.getD p default).op = 29 ∧ Rch l (256 * p)
def st1 (l : List Ins) (p : Nat) : Nat := 256 * (p + 1) + 2 ^ (l.getD p default).imm.toNat

open Classical in
noncomputable def spF (l : List Ins) (p : Nat) : List (Nat × Int) := if isH l p then [(p, un l (st1 l p))] else []
noncomputable def spT (l : List Ins) : Nat → List (Nat × Int)
  | 0 => []
  | n + 1 => spT l n ++ spF l n
noncomputable def spL (l : List Ins) : List (Nat × Int) := spT l l.length

open Classical in
/-- What is wrong but for how long it holds. -/
noncomputable def erL (l : List Ins) (k : Int) : Int × Int :=
  if (mayL l k).1 ≠ 0 then mayL l k else if h : ∃ q : Int × Nat, IsW l q.1 q.2 then ((Classical.choose h).1, ((Classical.choose h).2 : Int)) else (0, 0)

theorem erL_may {l : List Ins} {k : Int} (h : (mayL l k).1 ≠ 0) : erL l k = mayL l k := if_pos h
theorem erL_wrong {l : List Ins} {k : Int} (h : (mayL l k).1 = 0) {e : Int} {p : Nat} (hw : IsW l e p) : erL l k = (e, (p : Int)) := by
  unfold erL
  rw [if_neg (by simpa using h)]
  have hx : ∃ q : Int × Nat, IsW l q.1 q.2 := ⟨(e, p), hw⟩
  rw [dif_pos hx]
  obtain ⟨h1, h2⟩ := (Classical.choose_spec hx).unique hw
  rw [h1, h2]
theorem erL_ok {l : List Ins} {k : Int} (h : (mayL l k).1 = 0) (hw : ∀ n, Rch l n → wrE l n = 0) : erL l k = (0, 0) := by
  unfold erL
  rw [if_neg (by simpa using h)]
  have hx : ¬ ∃ q : Int × Nat, IsW l q.1 q.2 := fun ⟨q, ⟨n, h1, h2, _⟩, h3, _⟩ => h3 (by rw [← h2]; exact hw n h1)
  rw [dif_neg hx]

/-- The first hold that is too long. -/
def chk : List (Nat × Int) → Int → Int × Int
  | [], _ => (0, 0)
  | (p, u) :: r, h => if h < u then (15, (p : Int)) else chk r h
/-- The most units, or the first hold that has no end. -/
def lng : Int → List (Nat × Int) → Int × Int × Int
  | m, [] => (m, 0, 0)
  | m, (p, u) :: r => if u = INF then (0, 15, (p : Int)) else lng (max m u) r

noncomputable def checkL (l : List Ins) (k h : Int) : Int × Int := if h < 0 ∨ 64 < h then (1, 0) else if (erL l k).1 ≠ 0 then erL l k else chk (spL l) h
noncomputable def longL (l : List Ins) (k : Int) : Int × Int × Int := if (erL l k).1 ≠ 0 then (0, erL l k) else lng 0 (spL l)
end Go.Proofs.YtehapcoppghppaaDoor
