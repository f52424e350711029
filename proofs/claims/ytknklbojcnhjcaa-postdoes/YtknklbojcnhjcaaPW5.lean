/- Take: what its walk needs. -/
import Derived.Test.YtknklbojcnhjcaaPW4
namespace Go.Proofs.Ytknklbojcnhjcaa
open Go.RowKit Go.Shelf

/-- What is changed lies below B: whatever is no cells and lies beyond is as it was. -/
theorem keepsFrom_mod {S : Nat → Prop} {B : Nat} {W W' : World} (h : Mod S W W') (hs : ∀ k, S k → k < B) : KeepsFrom B W W' :=
  ⟨h.size, fun k o hB hk _ => (h.block k (Array.getElem?_eq_some_iff.1 hk).1 (fun h' => by have := hs k h'; omega)).trans hk⟩

theorem Row.isCells {w : World} {e : TypeId} {size n cap : Nat} {a : Option Addr} {xs : List Value} (h : Row w e size a n cap xs) : ∀ k, blk a = some k → ∃ o, w.heap[k]? = some o ∧ o.isCells = true := fun k hk => by
  obtain ⟨_, _, _, ⟨rfl, _⟩ | ⟨g, cur, rfl, hg, _⟩⟩ := h
  · cases hk
  · cases hk; exact ⟨_, hg, rfl⟩
theorem LnAt.isCells {w : World} {T : TypeId} {b : Nat} {s : LS} {a1 a2 : Option Addr} {c1 c2 : Nat} (h : LnAt w T b s a1 c1 a2 c2) : ∀ k, fp b a1 a2 k → ∃ o, w.heap[k]? = some o ∧ o.isCells = true := fun k hk => by
  rcases hk with rfl | hk | hk
  · exact ⟨_, h.obj, rfl⟩
  · exact h.vals.isCells k hk
  · exact h.wts.isCells k hk
/-- A call's leavings, all of whose blocks are cells. -/
theorem LnOut.cells {w w' : World} {T : TypeId} {b : Nat} {F : Nat → Prop} {s : LS} (h : LnOut w T b F s w') : Mod F w w' ∧ ∃ F', Ln w' T b F' s ∧ (∀ k, F' k → F k ∨ w.heap.size ≤ k) ∧ ∀ k, F' k → ∃ o, w'.heap[k]? = some o ∧ o.isCells = true := by
  obtain ⟨h1, F', ⟨a1, c1, a2, c2, h2, h3, _⟩, h4⟩ := h
  exact ⟨h1, _, h2.ln, fun k hk => h4 k (h3 k hk), h2.isCells⟩

/-- The boxes of Take. -/
structure TkBox (W : World) (G b : Nat) (v ln : Int) (wt : Int × Int) (lt : Bool) (e : Int) : Prop where
  o0 : W.heap[G]? = some (.cells #[.pointer (some ⟨b, 0, none⟩)] 31 (0, 0))
  o1 : W.heap[G + 1]? = some (.cells #[.int .i64 v] 2 (0, 0))
  o2 : W.heap[G + 1 + 1]? = some (.cells #[.int .i64 ln] 3 (0, 0))
  o3 : W.heap[G + 1 + 1 + 1]? = some (.cells #[.int .i64 wt.1, .int .i64 wt.2] 52 (0, 0))
  o4 : W.heap[G + 1 + 1 + 1 + 1]? = some (.cells #[.bool lt] 4 (0, 0))
  o5 : W.heap[G + 1 + 1 + 1 + 1 + 1]? = some (.cells #[.int .i64 e] 32 (0, 0))
section
variable {W W' : World} {G b : Nat} {v ln : Int} {wt : Int × Int} {lt : Bool} {e : Int}
theorem TkBox.kept (h : TkBox W G b v ln wt lt e) (hk : ∀ k, G ≤ k → k ≤ G + 5 → W'.heap[k]? = W.heap[k]?) : TkBox W' G b v ln wt lt e :=
  ⟨by rw [hk _ (by omega) (by omega)]; exact h.o0, by rw [hk _ (by omega) (by omega)]; exact h.o1, by rw [hk _ (by omega) (by omega)]; exact h.o2, by rw [hk _ (by omega) (by omega)]; exact h.o3, by rw [hk _ (by omega) (by omega)]; exact h.o4, by rw [hk _ (by omega) (by omega)]; exact h.o5⟩
theorem TkBox.cells (h : TkBox W G b v ln wt lt e) : W.cell? ⟨G, 0, none⟩ = some (.pointer (some ⟨b, 0, none⟩)) ∧ W.cell? ⟨G + 1, 0, none⟩ = some (.int .i64 v) ∧ W.cell? ⟨G + 1 + 1, 0, none⟩ = some (.int .i64 ln) ∧ W.cell? ⟨G + 1 + 1 + 1, 0, none⟩ = some (.int .i64 wt.1) ∧ W.cell? ⟨G + 1 + 1 + 1, 1, none⟩ = some (.int .i64 wt.2) ∧ W.cell? ⟨G + 1 + 1 + 1 + 1, 0, none⟩ = some (.bool lt) ∧ W.cell? ⟨G + 1 + 1 + 1 + 1 + 1, 0, none⟩ = some (.int .i64 e) := by
  refine ⟨?_, ?_, ?_, ?_, ?_, ?_, ?_⟩
  · rw [cell_of_row _ _ _ _ _ _ h.o0]; rfl
  · rw [cell_of_row _ _ _ _ _ _ h.o1]; rfl
  · rw [cell_of_row _ _ _ _ _ _ h.o2]; rfl
  · rw [cell_of_row _ _ _ _ _ _ h.o3]; rfl
  · rw [cell_of_row _ _ _ _ _ _ h.o3]; rfl
  · rw [cell_of_row _ _ _ _ _ _ h.o4]; rfl
  · rw [cell_of_row _ _ _ _ _ _ h.o5]; rfl
theorem TkBox.free (h : TkBox W G b v ln wt lt e) : W.frozen? ⟨G, 0, none⟩ = false ∧ W.frozen? ⟨G + 1, 0, none⟩ = false ∧ W.frozen? ⟨G + 1 + 1, 0, none⟩ = false ∧ W.frozen? ⟨G + 1 + 1 + 1, 0, none⟩ = false ∧ W.frozen? ⟨G + 1 + 1 + 1, 1, none⟩ = false ∧ W.frozen? ⟨G + 1 + 1 + 1 + 1, 0, none⟩ = false ∧ W.frozen? ⟨G + 1 + 1 + 1 + 1 + 1, 0, none⟩ = false := by
  refine ⟨?_, ?_, ?_, ?_, ?_, ?_, ?_⟩
  · simp [World.frozen?, h.o0]
  · simp [World.frozen?, h.o1]
  · simp [World.frozen?, h.o2]
  · simp [World.frozen?, h.o3]
  · simp [World.frozen?, h.o3]
  · simp [World.frozen?, h.o4]
  · simp [World.frozen?, h.o5]
/-- A store into one block, as blocks tell it. -/
theorem at_set {w : World} {p : Addr} {u : Value} {k : Nat} {o : Option Obj} (h : w.heap[k]? = o) (hk : k ≠ p.block) : (w.setCell p u).heap[k]? = o := by rw [Below.heap_setCell _ _ _ _ hk]; exact h
theorem TkBox.put (h : TkBox W G b v ln wt lt e) (v' : Int) (wt' : Int × Int) (lt' : Bool) (e' : Int) :
    TkBox (((((W.setCell ⟨G + 1, 0, none⟩ (.int .i64 v')).setCell ⟨G + 1 + 1 + 1, 0, none⟩ (.int .i64 wt'.1)).setCell ⟨G + 1 + 1 + 1, 1, none⟩ (.int .i64 wt'.2)).setCell ⟨G + 1 + 1 + 1 + 1, 0, none⟩ (.bool lt')).setCell ⟨G + 1 + 1 + 1 + 1 + 1, 0, none⟩ (.int .i64 e')) G b v' ln wt' lt' e' := by
  refine ⟨?_, ?_, ?_, ?_, ?_, ?_⟩
  · exact at_set (at_set (at_set (at_set (at_set h.o0 (by dsimp only; omega)) (by dsimp only; omega)) (by dsimp only; omega)) (by dsimp only; omega)) (by dsimp only; omega)
  · exact at_set (at_set (at_set (at_set (heap_setCell_self h.o1 _) (by dsimp only; omega)) (by dsimp only; omega)) (by dsimp only; omega)) (by dsimp only; omega)
  · exact at_set (at_set (at_set (at_set (at_set h.o2 (by dsimp only; omega)) (by dsimp only; omega)) (by dsimp only; omega)) (by dsimp only; omega)) (by dsimp only; omega)
  · exact at_set (at_set (heap_setCell_self (heap_setCell_self (at_set h.o3 (by dsimp only; omega)) _) _) (by dsimp only; omega)) (by dsimp only; omega)
  · exact at_set (heap_setCell_self (at_set (at_set (at_set h.o4 (by dsimp only; omega)) (by dsimp only; omega)) (by dsimp only; omega)) _) (by dsimp only; omega)
  · exact heap_setCell_self (at_set (at_set (at_set (at_set h.o5 (by dsimp only; omega)) (by dsimp only; omega)) (by dsimp only; omega)) (by dsimp only; omega)) _
theorem TkBox.putLn (h : TkBox W G b v ln wt lt e) (ln' : Int) : TkBox (W.setCell ⟨G + 1 + 1, 0, none⟩ (.int .i64 ln')) G b v ln' wt lt e :=
  ⟨at_set h.o0 (by dsimp only; omega), at_set h.o1 (by dsimp only; omega), heap_setCell_self h.o2 _, at_set h.o3 (by dsimp only; omega), at_set h.o4 (by dsimp only; omega), at_set h.o5 (by dsimp only; omega)⟩
theorem TkBox.putE (h : TkBox W G b v ln wt lt e) (e' : Int) : TkBox (W.setCell ⟨G + 1 + 1 + 1 + 1 + 1, 0, none⟩ (.int .i64 e')) G b v ln wt lt e' :=
  ⟨at_set h.o0 (by dsimp only; omega), at_set h.o1 (by dsimp only; omega), at_set h.o2 (by dsimp only; omega), at_set h.o3 (by dsimp only; omega), at_set h.o4 (by dsimp only; omega), heap_setCell_self h.o5 _⟩
theorem TkBox.isCells (h : TkBox W G b v ln wt lt e) : ∀ k, G ≤ k → k ≤ G + 5 → ∃ o, W.heap[k]? = some o ∧ o.isCells = true := fun k h1 h2 => by
  rcases (show k = G ∨ k = G + 1 ∨ k = G + 1 + 1 ∨ k = G + 1 + 1 + 1 ∨ k = G + 1 + 1 + 1 + 1 ∨ k = G + 1 + 1 + 1 + 1 + 1 by omega) with rfl | rfl | rfl | rfl | rfl | rfl
  · exact ⟨_, h.o0, rfl⟩
  · exact ⟨_, h.o1, rfl⟩
  · exact ⟨_, h.o2, rfl⟩
  · exact ⟨_, h.o3, rfl⟩
  · exact ⟨_, h.o4, rfl⟩
  · exact ⟨_, h.o5, rfl⟩
end
theorem tk_new (w : World) (b : Nat) : TkBox ((((((w.alloc (.cells #[.pointer (some ⟨b, 0, none⟩)] 31)).alloc (.cells #[.int .i64 0] 2)).alloc (.cells #[.int .i64 0] 3)).alloc (.cells #[.int .i64 0, .int .i64 0] 52)).alloc (.cells #[.bool false] 4)).alloc (.cells #[.int .i64 0] 32)) w.heap.size b 0 0 (0, 0) false 0 := by
  have nw : ∀ (W : World) (o : Obj) (k : Nat), k = W.heap.size → (W.alloc o).heap[k]? = some o := fun W o k e => by subst e; exact heap_alloc_new W o
  have od : ∀ (W : World) (o : Obj) (k : Nat) (r : Option Obj), k < W.heap.size → W.heap[k]? = r → (W.alloc o).heap[k]? = r := fun W o k r hk h => (Below.heap_alloc W o k hk).trans h
  refine ⟨?_, ?_, ?_, ?_, ?_, ?_⟩
  · refine od _ _ _ _ (by simp only [World.size_alloc]; omega) (od _ _ _ _ (by simp only [World.size_alloc]; omega) (od _ _ _ _ (by simp only [World.size_alloc]; omega) (od _ _ _ _ (by simp only [World.size_alloc]; omega) (od _ _ _ _ (by simp only [World.size_alloc]; omega) (nw _ _ _ rfl)))))
  · refine od _ _ _ _ (by simp only [World.size_alloc]; omega) (od _ _ _ _ (by simp only [World.size_alloc]; omega) (od _ _ _ _ (by simp only [World.size_alloc]; omega) (od _ _ _ _ (by simp only [World.size_alloc]; omega) (nw _ _ _ (by simp)))))
  · refine od _ _ _ _ (by simp only [World.size_alloc]; omega) (od _ _ _ _ (by simp only [World.size_alloc]; omega) (od _ _ _ _ (by simp only [World.size_alloc]; omega) (nw _ _ _ (by simp))))
  · refine od _ _ _ _ (by simp only [World.size_alloc]; omega) (od _ _ _ _ (by simp only [World.size_alloc]; omega) (nw _ _ _ (by simp)))
  · refine od _ _ _ _ (by simp only [World.size_alloc]; omega) (nw _ _ _ (by simp))
  · exact nw _ _ _ (by simp)

/-- A store of what is there already. -/
theorem set_idle {w : World} {b i : Nat} {cs : Array Value} {t : TypeId} {fr : Nat × Nat} {u : Value} (h : w.heap[b]? = some (.cells cs t fr)) (hu : cs[i]? = some u) : w.setCell ⟨b, i, none⟩ u = w := by
  have hh : (w.setCell ⟨b, i, none⟩ u).heap = w.heap := by
    refine Array.ext_getElem? (fun k => ?_)
    by_cases e : k = b
    · subst e
      rw [heap_setCell_self h, h]
      congr 2
      refine Array.ext_getElem? (fun j => ?_)
      rw [Array.getElem?_setIfInBounds]
      split
      · rename_i e2
        subst e2
        rw [hu]
        split
        · rfl
        · rename_i hn
          rw [Array.getElem?_eq_none (by omega)] at hu
          cases hu
      · rfl
    · exact Below.heap_setCell _ _ _ _ e
  cases w
  simp only [World.setCell] at hh ⊢
  rw [hh]
theorem TkBox.idle {W : World} {G b : Nat} {v ln : Int} {wt : Int × Int} {lt : Bool} {e : Int} (h : TkBox W G b v ln wt lt e) : W.setCell ⟨G + 1, 0, none⟩ (.int .i64 v) = W ∧ W.setCell ⟨G + 1 + 1, 0, none⟩ (.int .i64 ln) = W ∧ W.setCell ⟨G + 1 + 1 + 1, 0, none⟩ (.int .i64 wt.1) = W ∧ W.setCell ⟨G + 1 + 1 + 1, 1, none⟩ (.int .i64 wt.2) = W ∧ W.setCell ⟨G + 1 + 1 + 1 + 1, 0, none⟩ (.bool lt) = W ∧ W.setCell ⟨G + 1 + 1 + 1 + 1 + 1, 0, none⟩ (.int .i64 e) = W :=
  ⟨set_idle h.o1 rfl, set_idle h.o2 rfl, set_idle h.o3 rfl, set_idle h.o3 rfl, set_idle h.o4 rfl, set_idle h.o5 rfl⟩

/-- Lanes on the way through Take: whatever is theirs lay there ahead of it, or is new and cells. -/
def TPs (w : World) (ss : List LS) (cur b : Nat) (a : Option Addr) (cap : Nat) (bs : List Nat) (Fs : Nat → Nat → Prop) (B : Nat) (W : World) : Prop :=
  ∃ Fs', PsTo w 59 89 60 b a cap bs Fs ss cur W Fs' ∧ ∀ k, pfp b a ss.length Fs' k → k < w.heap.size ∨ (B ≤ k ∧ ∃ o, W.heap[k]? = some o ∧ o.isCells = true)
section
variable {w W : World} {ss : List LS} {cur b : Nat} {a : Option Addr} {cap : Nat} {bs : List Nat} {Fs : Nat → Nat → Prop} {B : Nat}
theorem TPs.store (h : TPs w ss cur b a cap bs Fs B W) {g : Nat} (h1 : w.heap.size ≤ g) (h2 : g < B) (i : Nat) (u : Value) : TPs w ss cur b a cap bs Fs B (W.setCell ⟨g, i, none⟩ u) := by
  obtain ⟨Fs', h3, h4⟩ := h
  refine ⟨Fs', h3.other (fun hk => by rcases h4 g hk with h5 | ⟨h5, _⟩ <;> omega) h1 i u, fun k hk => ?_⟩
  rcases h4 k hk with h5 | ⟨h5, o, ho, hc⟩
  · exact .inl h5
  · exact .inr ⟨h5, o, at_set ho (by dsimp only; omega), hc⟩
theorem TPs.setCur (h : TPs w ss cur b a cap bs Fs B W) (h2 : b < B) (c : Nat) : TPs w ss c b a cap bs Fs B (W.setCell ⟨b, 1, none⟩ (.int .i64 (c : Int))) := by
  obtain ⟨Fs', h3, h4⟩ := h
  refine ⟨Fs', h3.setCur c, fun k hk => ?_⟩
  rcases h4 k hk with h5 | ⟨h5, o, ho, hc⟩
  · exact .inl h5
  · exact .inr ⟨h5, o, at_set ho (by dsimp only; omega), hc⟩
theorem TPs.drew (h : TPs w ss cur b a cap bs Fs B W) : TPs w ss cur b a cap bs Fs B W.drew := by
  obtain ⟨Fs', h3, h4⟩ := h
  exact ⟨Fs', h3.bel ((Below.refl _ W).drew), h4⟩
theorem TPs.cells (h : TPs w ss cur b a cap bs Fs B W) : W.cell? ⟨b, 0, none⟩ = some (.slice a ss.length cap) ∧ W.cell? ⟨b, 1, none⟩ = some (.int .i64 (cur : Int)) ∧ W.frozen? ⟨b, 1, none⟩ = false := by
  obtain ⟨Fs', h3, h4⟩ := h
  exact ⟨h3.at'.cells.1, h3.at'.cells.2, h3.at'.free 1⟩
/-- One lane taken of, in the world W that came since. -/
theorem TPs.took (h : PsAt w 59 89 60 b ss cur a cap bs Fs) {W' : World} (hb : Below w.heap.size w W) (hB : B ≤ W.heap.size) {i : Nat} (hi : i < ss.length) {s' : LS} {F' : Nat → Prop} (hm : Mod (Fs i) W W') (hL : Ln W' 89 (bs.getD i 0) F' s') (hF' : ∀ k, F' k → Fs i k ∨ W.heap.size ≤ k) (hc : ∀ k, F' k → ∃ o, W'.heap[k]? = some o ∧ o.isCells = true) :
    TPs w (ss.set i s') cur b a cap bs Fs B W' := by
  have h1 := (h.to.bel hb).laneF hi hm hL hF'
  refine ⟨_, h1, fun k hk => ?_⟩
  rw [List.length_set] at hk
  rcases hk with rfl | hk | ⟨j, hj, hk⟩
  · exact .inl h.blt
  · exact .inl (h.row.lt k hk)
  · by_cases e : j = i
    · rw [if_pos e] at hk
      rcases hF' k hk with h2 | h2
      · exact .inl ((h.lns i hi).lt k h2)
      · exact .inr ⟨Nat.le_trans hB h2, hc k hk⟩
    · rw [if_neg e] at hk
      exact .inl ((h.lns j hj).lt k hk)
end
/-- How Take has left by its label: of which lane, and what it told. -/
structure Took (w : World) (ss : List LS) (b : Nat) (a : Option Addr) (cap : Nat) (bs : List Nat) (Fs : Nat → Nat → Prop) (B : Nat) (i : Nat) (W : World) : Prop where
  box : TkBox W w.heap.size b (takeL (lnOf ss i)).1.1 (i : Int) (takeL (lnOf ss i)).1.2.1 (takeL (lnOf ss i)).1.2.2.1 (takeL (lnOf ss i)).1.2.2.2
  ps : TPs w (ss.set i (takeL (lnOf ss i)).2) ((i + 1) % ss.length) b a cap bs Fs B W

/-- The turn of a block that is no cells and lies beyond. -/
theorem Took.turn {w : World} {ss : List LS} {b : Nat} {a : Option Addr} {cap : Nat} {bs : List Nat} {Fs : Nat → Nat → Prop} {B i : Nat} {W W' : World} {row : Option Nat} (h : Took w ss b a cap bs Fs B i W) (hB : w.heap.size + 6 ≤ B) (hm : Mod (fun k => row = some k) W W') (hr : ∀ r, row = some r → B ≤ r ∧ ∃ o : Obj, W.heap[r]? = some o ∧ o.isCells = false) :
    Took w ss b a cap bs Fs B i W' := by
  obtain ⟨Fs', h1, h2⟩ := h.ps
  have hne : ∀ k, (∃ o : Obj, W.heap[k]? = some o ∧ o.isCells = true) → row ≠ some k := fun k ⟨o, ho, hc⟩ e => by
    obtain ⟨_, o', ho', hc'⟩ := hr k e
    rw [ho] at ho'
    cases ho'
    rw [hc] at hc'
    cases hc'
  have hlt : ∀ k, (∃ o : Obj, W.heap[k]? = some o ∧ o.isCells = true) → W'.heap[k]? = W.heap[k]? := fun k hk => hm.block k (by obtain ⟨o, ho, _⟩ := hk; exact (Array.getElem?_eq_some_iff.1 ho).1) (hne k hk)
  refine ⟨h.box.kept (fun k hk1 hk2 => hlt k (h.box.isCells k hk1 hk2)), Fs', h1.modify hm (fun k hk e => ?_) (fun k e => by have := (hr k e).1; omega), fun k hk => ?_⟩
  · rcases h2 k hk with h3 | ⟨_, h3⟩
    · have := (hr k e).1; omega
    · exact hne k h3 e
  · rcases h2 k hk with h3 | ⟨h4, h3⟩
    · exact .inl h3
    · obtain ⟨o, ho, hc⟩ := h3
      exact .inr ⟨h4, o, (hlt k ⟨o, ho, hc⟩).trans ho, hc⟩
theorem mod_grown {W W' : World} {row : Option Nat} (h : W.grownBy W' row) : Mod (fun k => row = some k) W W' := ⟨h.os, h.tape, h.output, h.size, fun k hk hn => h.block k hk (fun e => hn e.symm)⟩
end Go.Proofs.Ytknklbojcnhjcaa
