/- The document's side: the units of a stand, found by going on from it. -/
import Derived.Test.YtehapcoppghppaaDoorVR2
import Derived.Test.YtehapcoppghppaaDoorVW4
namespace Go.Proofs.YtehapcoppghppaaDoor
open Go.RowKit

/-- The world is as it was, but for two blocks and what is new. -/
structure G2 (w w' : World) (p q : Nat) : Prop where
  os : w'.os = w.os
  tape : w'.tape = w.tape
  output : w'.output = w.output
  size : w.heap.size ≤ w'.heap.size
  block : ∀ k, k < w.heap.size → k ≠ p → k ≠ q → w'.heap[k]? = w.heap[k]?

theorem G2.refl (w : World) (p q : Nat) : G2 w w p q := ⟨rfl, rfl, rfl, Nat.le_refl _, fun _ _ _ _ => rfl⟩
theorem G2.trans {a b c : World} {p q : Nat} (h : G2 a b p q) (k : G2 b c p q) : G2 a c p q :=
  ⟨k.os.trans h.os, k.tape.trans h.tape, k.output.trans h.output, Nat.le_trans h.size k.size, fun i hi h1 h2 => (k.block i (Nat.lt_of_lt_of_le hi h.size) h1 h2).trans (h.block i hi h1 h2)⟩
theorem G2.of_below {w w' : World} (p q : Nat) (hb : Below w.heap.size w w') : G2 w w' p q := ⟨hb.os, hb.tape, hb.output, hb.size, fun k hk _ _ => hb.block k hk⟩
theorem G2.of_grown {w w' : World} {p q r : Nat} (hg : w.grownBy w' (some r)) (hr : r = p ∨ r = q) : G2 w w' p q :=
  ⟨hg.os, hg.tape, hg.output, hg.size, fun k hk h1 h2 => hg.block k hk (fun e => by
    have := Option.some.inj e
    rcases hr with hr | hr <;> omega)⟩
theorem G2.cell {w w' : World} {p q : Nat} (h : G2 w w' p q) {a : Addr} {v : Value} (hc : w.cell? a = some v) (h1 : a.block ≠ p) (h2 : a.block ≠ q) : w'.cell? a = some v :=
  (World.cell?_of_block (h.block a.block (World.block_lt_of_cell? w a hc) h1 h2)).trans hc
theorem owns_G2 {w w' : World} {p q : Nat} {B n s : Nat} {e : TypeId} {v : Value} {xs : List Value} (h : w.ownsRow B e s v n xs) (hg : G2 w w' p q) (hne : ∀ b, v.ownBlock = some b → b ≠ p ∧ b ≠ q) : w'.ownsRow B e s v n xs := by
  have hlt := h.lt
  obtain ⟨h1, h2⟩ := h
  refine ⟨h1, ?_⟩
  rcases h2 with h2 | ⟨g, cap, cur, rfl, h3, h4, h5⟩
  · exact .inl h2
  · refine .inr ⟨g, cap, cur, rfl, h3, ?_, h5⟩
    rw [hg.block g (hlt g rfl).2 (hne g rfl).1 (hne g rfl).2]
    exact h4
theorem G2.below {w0 w w' : World} {p q : Nat} (hb : Below w0.heap.size w0 w) (h : G2 w w' p q) (hp : w0.heap.size ≤ p) (hq : w0.heap.size ≤ q) : Below w0.heap.size w0 w' :=
  ⟨h.os.trans hb.os, h.tape.trans hb.tape, h.output.trans hb.output, Nat.le_trans hb.size h.size, fun k hk => (h.block k (Nat.lt_of_lt_of_le hk hb.size) (by omega) (by omega)).trans (hb.block k hk)⟩

open Classical in
/-- The units as the document's answer has them: below 0, if there is no end. -/
noncomputable def cv (l : List Ins) (n : Nat) : Int := if un l n = INF then -1 else un l n
theorem cv_inf {l : List Ins} {n : Nat} (h : un l n = INF) : cv l n = -1 := if_pos h
theorem cv_fin {l : List Ins} {n : Nat} (h : un l n ≠ INF) : cv l n = un l n := if_neg h
theorem cv_ne (l : List Ins) (n : Nat) : cv l n ≠ 0 := by
  unfold cv
  split
  · decide
  · have := un_pos l n
    omega

def LI (l : List Ins) (G : Nat → Int) : Prop := ∀ i, G i ≠ 0 → G i = cv l i

/-- The struct 'rows' in memory. -/
structure US (w0 w : World) (a : Option Addr) (N cap gr gl go M : Nat) (G : Nat → Int) (o : Nat → Bool) : Prop where
  c0 : w.cell? ⟨gr, 0, none⟩ = some (.slice a N cap)
  c1 : w.cell? ⟨gr, 1, none⟩ = some (.slice (some ⟨gl, 0, none⟩) M M)
  c2 : w.cell? ⟨gr, 2, none⟩ = some (.slice (some ⟨go, 0, none⟩) M M)
  long : Arr w w0.heap.size gl 3 M (iF G)
  on : Arr w w0.heap.size go 4 M (fun j => .bool (o j))
  d1 : gl ≠ go
  d2 : gr ≠ gl
  d3 : gr ≠ go
  bel : Below w0.heap.size w0 w

section
variable {w0 w w' : World} {a : Option Addr} {N cap gr gl go M : Nat} {G : Nat → Int} {o : Nat → Bool}
theorem US.after (h : US w0 w a N cap gr gl go M G o) (hb : Below w.heap.size w w') : US w0 w' a N cap gr gl go M G o where
  c0 := (hb.cell (World.block_lt_of_cell? w _ h.c0)).trans h.c0
  c1 := (hb.cell (World.block_lt_of_cell? w _ h.c1)).trans h.c1
  c2 := (hb.cell (World.block_lt_of_cell? w _ h.c2)).trans h.c2
  long := h.long.kept hb
  on := h.on.kept hb
  d1 := h.d1
  d2 := h.d2
  d3 := h.d3
  bel := h.bel.trans (hb.mono h.bel.size)
theorem US.putL (h : US w0 w a N cap gr gl go M G o) (t : Nat) (x : Int) : US w0 (w.setCell ⟨gl, t, none⟩ (.int .i64 x)) a N cap gr gl go M (upd G t x) o ∧ G2 w (w.setCell ⟨gl, t, none⟩ (.int .i64 x)) gl go := by
  obtain ⟨h1, h2⟩ := h.long.put t (.int .i64 x)
  have g2 : G2 w (w.setCell ⟨gl, t, none⟩ (.int .i64 x)) gl go := .of_grown h2 (.inl rfl)
  refine ⟨⟨g2.cell h.c0 h.d2 h.d3, g2.cell h.c1 h.d2 h.d3, g2.cell h.c2 h.d2 h.d3, h1.ext fun i _ => ?_, h.on.grown h2 (fun e => h.d1 (Option.some.inj e)), h.d1, h.d2, h.d3, h.bel.setCell h.long.lt.1 _⟩, g2⟩
  unfold iF upd
  by_cases e : i = t
  · simp [e]
  · simp [e]
theorem US.putO (h : US w0 w a N cap gr gl go M G o) (t : Nat) (x : Bool) : US w0 (w.setCell ⟨go, t, none⟩ (.bool x)) a N cap gr gl go M G (fun j => if j = t then x else o j) ∧ G2 w (w.setCell ⟨go, t, none⟩ (.bool x)) gl go := by
  obtain ⟨h1, h2⟩ := h.on.put t (.bool x)
  have g2 : G2 w (w.setCell ⟨go, t, none⟩ (.bool x)) gl go := .of_grown h2 (.inr rfl)
  refine ⟨⟨g2.cell h.c0 h.d2 h.d3, g2.cell h.c1 h.d2 h.d3, g2.cell h.c2 h.d2 h.d3, h.long.grown h2 (fun e => h.d1 (Option.some.inj e).symm), h1.ext fun i _ => ?_, h.d1, h.d2, h.d3, h.bel.setCell h.on.lt.1 _⟩, g2⟩
  by_cases e : i = t
  · simp [e]
  · simp [e]
end

/-- What 'units' tells and leaves. -/
def UPost (l : List Ins) (w0 w : World) (a : Option Addr) (cap gr gl go M : Nat) (o : Nat → Bool) (n : Nat) (e : Ending) (w' : World) : Prop :=
  ∃ G, e = .returned (.int .i64 (if n % 256 = 0 then 0 else cv l n)) ∧ US w0 w' a l.length cap gr gl go M G o ∧ LI l G ∧ G2 w w' gl go

/-- What is known of those that follow so far. -/
structure Sofar (l : List Ins) (fs : List Nat) (i : Nat) (z : Int) : Prop where
  neg : z < 0 → z = -1 ∧ ∃ t ∈ fs, t % 256 ≠ 0 ∧ un l t = INF
  le : 0 ≤ z → ∀ j, j < i → (fs.getD j 0) % 256 ≠ 0 → un l (fs.getD j 0) ≠ INF ∧ un l (fs.getD j 0) ≤ z
  at_ : 0 ≤ z → z = 0 ∨ ∃ t ∈ fs, t % 256 ≠ 0 ∧ un l t = z
  hi : z ≤ 100000

theorem Sofar.cv {l : List Ins} (ok : Ok l) {n : Nat} {z : Int} (h : Sofar l (nxt l n) (nxt l n).length z) : cv l n = if z < 0 then -1 else z + 1 := by
  have hm : ∀ t, t ∈ nx l n ↔ t ∈ nxt l n ∧ t % 256 ≠ 0 := fun t => by unfold nx; rw [List.mem_filter]; simp
  by_cases hz : z < 0
  · rw [if_pos hz]
    obtain ⟨_, t, ht, h1, h2⟩ := h.neg hz
    exact cv_inf (un_endless ((hm t).mpr ⟨ht, h1⟩) h2 ok)
  · rw [if_neg hz]
    have hz0 : 0 ≤ z := by omega
    have h2 := h.hi
    have key : un l n = z + 1 := un_next hz0 (by unfold INF; omega) (fun t ht => by
      obtain ⟨h3, h4⟩ := (hm t).mp ht
      obtain ⟨j, hj, rfl⟩ := List.getElem_of_mem h3
      have := h.le hz0 j hj
      rw [List.getD_eq_getElem?_getD, List.getElem?_eq_getElem hj] at this
      exact (this h4).2) (by
      rcases h.at_ hz0 with h3 | ⟨t, h3, h4, h5⟩
      · exact .inl h3
      · exact .inr ⟨t, (hm t).mpr ⟨h3, h4⟩, h5⟩)
    rw [cv_fin (by rw [key]; unfold INF; omega), key]

/-- One more of them. -/
theorem Sofar.step {l : List Ins} (ok : Ok l) {fs : List Nat} {i : Nat} {z : Int} (h : Sofar l fs i z) (hi : i < fs.length) (k : Int) (hk : k = if fs.getD i 0 % 256 = 0 then 0 else Go.Proofs.YtehapcoppghppaaDoor.cv l (fs.getD i 0)) :
    Sofar l fs (i + 1) (if k < 0 then -1 else if z < 0 then z else max z k) := by
  have hm := getD_mem hi
  by_cases hk0 : k < 0
  · rw [if_pos hk0]
    have h1 : ¬ fs.getD i 0 % 256 = 0 := fun e => by rw [if_pos e] at hk; omega
    rw [if_neg h1] at hk
    have h2 : un l (fs.getD i 0) = INF := Classical.byContradiction fun h2 => by
      rw [cv_fin h2] at hk
      have := un_pos l (fs.getD i 0)
      omega
    exact ⟨fun _ => ⟨rfl, _, hm, h1, h2⟩, fun h => by omega, fun h => by omega, by omega⟩
  · rw [if_neg hk0]
    by_cases hz : z < 0
    · rw [if_pos hz]
      exact ⟨h.neg, fun h => by omega, fun h => by omega, h.hi⟩
    · rw [if_neg hz]
      have hz0 : 0 ≤ z := by omega
      by_cases h1 : fs.getD i 0 % 256 = 0
      · rw [if_pos h1] at hk
        rw [show max z k = z by omega]
        refine ⟨fun h => by omega, fun _ j hj hj2 => ?_, h.at_, h.hi⟩
        by_cases e : j = i
        · rw [e] at hj2; exact absurd h1 hj2
        · exact h.le hz0 j (by omega) hj2
      · rw [if_neg h1] at hk
        have h2 : un l (fs.getD i 0) ≠ INF := fun h2 => by rw [cv_inf h2] at hk; omega
        rw [cv_fin h2] at hk
        have h3 := un_le ok h2
        have h4 := ok.len
        refine ⟨fun h => by omega, fun _ j hj hj2 => ?_, fun _ => ?_, ?_⟩
        · by_cases e : j = i
          · rw [e]; exact ⟨h2, by omega⟩
          · have := h.le hz0 j (by omega) hj2
            exact ⟨this.1, by omega⟩
        · rcases Int.lt_or_le z k with h5 | h5
          · exact .inr ⟨_, hm, h1, by omega⟩
          · rw [show max z k = z by omega]
            exact h.at_ hz0
        · have := h.hi
          omega
end Go.Proofs.YtehapcoppghppaaDoor
