/- New, and the document's own New. -/
import Derived.Test.YtcececjnndhalaaW7
import Derived.OwnWalk
import Derived.Lib.SliceRun
namespace Go.Proofs.Ytcececjnndhalaa
open Go.RowKit

theorem info3 : (Try.prog.info? 3).map (fun i => (i.zero, i.size, i.bytes)) = some (some (.int .i64 0), 1, 8) := by kernel_rfl

/-- Ints as cells. -/
def iCells (l : List Int) : List Value := l.map (Value.int .i64)
theorem iCells_len (l : List Int) : (iCells l).length = l.length := by simp [iCells]
theorem iCells_one (l : List Int) : ∀ u ∈ iCells l, u.oneCell' = true := by
  intro u hu
  simp only [iCells, List.mem_map] at hu
  obtain ⟨n, _, rfl⟩ := hu
  rfl
theorem iCells_at (l : List Int) (k : Nat) (h : k < l.length) : (iCells l)[k]? = some (.int .i64 (l.getD k 0)) := by
  simp [iCells, List.getD_eq_getElem?_getD, h]
theorem iCells_ne (l : List Int) (k : Nat) (h : k < l.length) : iCells l ≠ [] := fun e => by
  have := iCells_len l
  rw [e] at this; simp at this; omega

/-- The cells vs lie at the address a (of none nothing is said). -/
def Cells (w : World) (a : Option Addr) (vs : List Value) : Prop := vs ≠ [] → ∃ b off, a = some ⟨b, off, none⟩ ∧ ∀ i u, vs[i]? = some u → w.cell? ⟨b, off + i, none⟩ = some u

theorem Cells.nil (w : World) (a : Option Addr) : Cells w a [] := fun h => absurd rfl h

theorem Cells.kept {w w' : World} {a : Option Addr} {vs : List Value} (h : Cells w a vs) (hb : Below w.heap.size w w') : Cells w' a vs := fun hne => by
  obtain ⟨b, off, e, hc⟩ := h hne
  exact ⟨b, off, e, fun i u hu => (hb.cell (World.block_lt_of_cell? w _ (hc i u hu))).trans (hc i u hu)⟩

theorem Cells.drewN {w : World} {a : Option Addr} {vs : List Value} (h : Cells w a vs) (n : Nat) : Cells (w.drewN n) a vs := h.kept (below_drewN (Below.refl _ _) n)

theorem addr_add (b off j : Nat) : (⟨b, off, none⟩ : Addr).add j = ⟨b, off + j, none⟩ := by
  unfold Addr.add
  split
  · rename_i h; subst h; rfl
  · rfl

theorem cells_src {w w' : World} {ad : Addr} {vs : List Value} (h : Cells w (some ad) vs) (hb : Below w.heap.size w w') : ∀ j u, vs[j]? = some u → w'.cell? (ad.add j) = some u := by
  intro j u hu
  have hne : vs ≠ [] := fun e => by rw [e] at hu; cases hu
  obtain ⟨b', off', e, hc⟩ := h hne
  cases e
  rw [addr_add]
  exact (hb.cell (World.block_lt_of_cell? w _ (hc j u hu))).trans (hc j u hu)

theorem cells_of_owns {w : World} {B n : Nat} {e : TypeId} {v : Value} {vs : List Value} (h : w.ownsRow B e 1 v n vs) : ∃ a cap, v = .slice a n cap ∧ Cells w a vs ∧ n ≤ cap ∧ vs.length = n := by
  obtain ⟨h1, h2⟩ := h
  rcases h2 with ⟨rfl, rfl⟩ | ⟨g, cap, cur, rfl, hg, hh, hn, hm, hs, ht⟩
  · have : vs = [] := by simpa using h1
    subst this
    exact ⟨none, 0, rfl, Cells.nil _ _, Nat.le_refl _, rfl⟩
  · refine ⟨some ⟨g, 0, none⟩, cap, rfl, fun _ => ⟨g, 0, rfl, fun i u hu => ?_⟩, hn, by simpa using h1⟩
    have hi : i < vs.length := by
      rcases Nat.lt_or_ge i vs.length with h | h
      · exact h
      · rw [List.getElem?_eq_none h] at hu; cases hu
    have := World.ownsRow.cellAt (w := w) (base := B) (e := e) (size := 1) (g := g) (n := n) (cap := cap) (xs := vs) ⟨h1, .inr ⟨g, cap, cur, rfl, hg, hh, hn, hm, hs, ht⟩⟩ i (by omega)
    simpa [hu] using this

theorem owns_shape {w : World} {B n : Nat} {v : Value} {l : List Int} (h : w.ownsRow B 3 1 v n (iCells l)) (hn : n = l.length) (hp : 0 < l.length) :
    ∃ g cp, v = .slice (some ⟨g, 0, none⟩) l.length cp ∧ B ≤ g ∧ l.length ≤ cp ∧ Ents w g l := by
  subst hn
  obtain ⟨h1, h2⟩ := h
  rcases h2 with ⟨rfl, h0⟩ | ⟨g, cap, cur, rfl, hg, hh, hn, hm, hs, ht⟩
  · omega
  · refine ⟨g, cap, rfl, hg, hn, fun i hi => ?_⟩
    have := World.ownsRow.cellAt (w := w) (base := B) (e := 3) (size := 1) (g := g) (n := l.length) (cap := cap) (xs := iCells l) ⟨h1, .inr ⟨g, cap, cur, rfl, hg, hh, hn, hm, hs, ht⟩⟩ i (by omega)
    rw [this, iCells_at l i hi]

set_option maxRecDepth 100000 in
set_option maxHeartbeats 1000000 in
theorem clone_any (a : Option Addr) (cap : Nat) (l : List Int) (w : World) (hC : Cells w a (iCells l)) (hlen : l.length ≤ 2000000) :
    Calls Try.prog 26 #[.slice a l.length cap] w fun e w' => ∃ v, e = .returned v ∧ w'.ownsRow w.heap.size 3 1 v l.length (iCells l) ∧ Below w.heap.size w w' := by
  obtain ⟨i0, hi, hz0, hz1, hz2⟩ := info_parts info3
  have q22 : ∀ (w : World) (a : Option Addr) (n c n' c' : Nat), (binOp .eql 22 (.slice a n c) (.slice none n' c')).run Try.prog w = .ok (.bool a.isNone) w := fun w a n c n' c' => Lib.run_eql_slice_nil w _ _ a n c n' c' Try.underlying22
  cases a with
  | none =>
    have e : l = [] := by
      cases l with
      | nil => rfl
      | cons x r => obtain ⟨b, off, h, _⟩ := hC (iCells_ne _ 0 (by simp)); cases h
    subst e
    go_enter Try.func26, Try.ntmps26
    go_wp2
    go_ret
    exact ⟨_, rfl, World.ownsRow_nil _ _ _ _, Below.refl _ _⟩
  | some ad =>
    have hll := iCells_len l
    go_enter Try.func26, Try.ntmps26
    go_wp2_with (first | (at_builtin; refine wpList_append_own _ rfl _ _ 22 rfl w.heap.size 3 i0 (.int .i64 0) 1 8 Try.underlying22 hi hz0 hz1 hz2 rfl (by decide) _ _ _ rfl (World.ownsRow_made w #[] 0 (Nat.le_refl _) (Nat.zero_le _) (by simp)) ad l.length cap (iCells l) rfl (by omega) (cells_src hC ((Below.refl _ w).alloc (Nat.le_refl _) _)) (iCells_one l) (by unfold maxLen; omega) (by omega) (by simp) ?_; intro v' w1 hown hgrow hnil) | go_in)
    go_ret
    refine ⟨v', rfl, by simpa using hown, ?_⟩
    exact ((Below.refl _ w).alloc (Nat.le_refl _) _).grown hgrow (by simp) (fun k hk => by cases hk; exact Nat.le_refl _)

/-- Is an entry one of the partitions? -/
def okEnt (P x : Int) : Prop := 0 ≤ x ∧ x < P

/-- What is wrong with a table, and where. -/
def NewNo (l : List Int) (P : Int) (e k : Nat) : Prop :=
  ((P < 1 ∨ 8 < P ∨ l.length = 0) ∧ e = 1 ∧ k = 0) ∨
  ((1 ≤ P ∧ P ≤ 8 ∧ 64 < l.length) ∧ e = 3 ∧ k = 64) ∨
  ((1 ≤ P ∧ P ≤ 8 ∧ 0 < l.length ∧ l.length ≤ 64 ∧ k < l.length ∧ (∀ i, i < k → okEnt P (l.getD i 0)) ∧ ¬ okEnt P (l.getD k 0)) ∧ e = 2)

/-- A table of P partitions. -/
structure NewOk (l : List Int) (P : Int) : Prop where
  lo : 1 ≤ P
  hi : P ≤ 8
  pos : 0 < l.length
  len : l.length ≤ 64
  ent : ∀ i, i < l.length → okEnt P (l.getD i 0)

theorem first_bad (l : List Int) (P : Int) : ∀ k, k ≤ l.length → (∀ i, i < k → okEnt P (l.getD i 0)) ∨ ∃ j, j < k ∧ (∀ i, i < j → okEnt P (l.getD i 0)) ∧ ¬ okEnt P (l.getD j 0)
  | 0, _ => .inl fun i hi => absurd hi (Nat.not_lt_zero i)
  | k + 1, hk => by
    rcases first_bad l P k (by omega) with h | ⟨j, hj, h1, h2⟩
    · by_cases h2 : okEnt P (l.getD k 0)
      · refine .inl fun i hi => ?_
        by_cases e : i = k
        · subst e; exact h2
        · exact h i (by omega)
      · exact .inr ⟨k, by omega, h, h2⟩
    · exact .inr ⟨j, by omega, h1, h2⟩

theorem new_either (l : List Int) (P : Int) : NewOk l P ∨ ∃ e k, e ≠ 0 ∧ NewNo l P e k := by
  by_cases h1 : P < 1 ∨ 8 < P ∨ l.length = 0
  · exact .inr ⟨1, 0, by decide, .inl ⟨h1, rfl, rfl⟩⟩
  · by_cases h2 : 64 < l.length
    · exact .inr ⟨3, 64, by decide, .inr (.inl ⟨by omega, rfl, rfl⟩)⟩
    · rcases first_bad l P l.length (Nat.le_refl _) with h | ⟨j, hj, h3, h4⟩
      · exact .inl ⟨by omega, by omega, by omega, by omega, h⟩
      · exact .inr ⟨2, j, by decide, .inr (.inr ⟨⟨by omega, by omega, by omega, by omega, hj, h3, h4⟩, rfl⟩)⟩

theorem cell_alloc_keep {w : World} {p : Addr} {v : Value} (o : Obj) (h : w.cell? p = some v) : (w.alloc o).cell? p = some v :=
  (World.cell?_of_block (w := w) (Below.heap_alloc w o p.block (World.block_lt_of_cell? w p h))).trans h

theorem sl_made {w1 : World} {g cp : Nat} {l : List Int} {P : Int} {t : TypeId} (ok : NewOk l P) (hcp : l.length ≤ cp) (he : Ents w1 g l) :
    Sl (w1.alloc (.cells #[.slice (some ⟨g, 0, none⟩) l.length cp] t)) w1.heap.size g cp l where
  c0 := by simp
  ent := fun i hi => cell_alloc_keep _ (he i hi)
  len := ok.len
  cap := hcp
  pos := ok.pos
  wf := fun i hi => by
    have h1 := ok.ent i hi
    have h2 := ok.hi
    unfold okEnt at h1
    omega

end Go.Proofs.Ytcececjnndhalaa
