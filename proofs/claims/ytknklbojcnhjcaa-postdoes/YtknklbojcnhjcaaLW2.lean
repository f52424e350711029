/- A lane in memory. -/
import Derived.Test.YtknklbojcnhjcaaLM1
import Derived.Test.YtknklbojcnhjcaaLW1
namespace Go.Proofs.Ytknklbojcnhjcaa
open Go.RowKit

/-- Whole numbers, and those who wait, as cells. -/
def iC (l : List Int) : List Value := l.map (.int .i64 ·)
def wP (x : Int × Int) : List Value := [.int .i64 x.1, .int .i64 x.2]
def wC (l : List (Int × Int)) : List Value := l.flatMap wP
theorem iC_len (l : List Int) : (iC l).length = l.length * 1 := by simp [iC]
theorem wC_len (l : List (Int × Int)) : (wC l).length = l.length * 2 := by
  induction l with
  | nil => rfl
  | cons x r ih => simp only [wC, List.flatMap_cons, List.length_append, List.length_cons] at *; rw [ih, show (wP x).length = 2 from rfl]; omega
theorem iC_app (l m : List Int) : iC (l ++ m) = iC l ++ iC m := by simp [iC]
theorem wC_app (l m : List (Int × Int)) : wC (l ++ m) = wC l ++ wC m := by simp [wC]
theorem iC_at (l : List Int) (i : Nat) (h : i < l.length) : (iC l)[i]? = some (.int .i64 (l.getD i 0)) := by
  simp [iC, List.getD_eq_getElem?_getD, List.getElem?_eq_getElem h]
theorem wC_at : ∀ (l : List (Int × Int)) (i : Nat), i < l.length → (wC l)[i * 2]? = some (.int .i64 (l.getD i (0, 0)).1) ∧ (wC l)[i * 2 + 1]? = some (.int .i64 (l.getD i (0, 0)).2)
  | [], i, h => absurd h (Nat.not_lt_zero i)
  | t :: ts, 0, _ => ⟨rfl, rfl⟩
  | t :: ts, i + 1, h => by
    have ih := wC_at ts i (by simpa using h)
    simp only [wC, List.flatMap_cons, List.getD_cons_succ] at *
    rw [List.getElem?_append_right (by rw [show (wP t).length = 2 from rfl]; omega), List.getElem?_append_right (by rw [show (wP t).length = 2 from rfl]; omega), show (wP t).length = 2 from rfl, show (i + 1) * 2 - 2 = i * 2 by omega, show (i + 1) * 2 + 1 - 2 = i * 2 + 1 by omega]
    exact ih
theorem iC_one (l : List Int) : ∀ u ∈ iC l, u.oneCell' = true := by
  intro u hu
  obtain ⟨x, _, rfl⟩ := List.mem_map.mp hu
  rfl
theorem wC_one (l : List (Int × Int)) : ∀ u ∈ wC l, u.oneCell' = true := by
  intro u hu
  simp only [wC, List.mem_flatMap, wP] at hu
  obtain ⟨x, _, hx⟩ := hu
  simp only [List.mem_cons, List.not_mem_nil, or_false] at hx
  rcases hx with rfl | rfl <;> rfl
theorem iC_drop (l : List Int) (k : Nat) : (iC l).drop (k * 1) = iC (l.drop k) := by simp [iC]
theorem iC_take (l : List Int) (k : Nat) : (iC l).take (k * 1) = iC (l.take k) := by simp [iC, List.map_take]
theorem wC_drop (l : List (Int × Int)) (k : Nat) : (wC l).drop (k * 2) = wC (l.drop k) := by
  induction k generalizing l with
  | zero => simp
  | succ k ih =>
    cases l with
    | nil => simp [wC]
    | cons x r =>
      rw [List.drop_succ_cons, ← ih]
      simp only [wC, List.flatMap_cons]
      rw [show (k + 1) * 2 = (wP x).length + k * 2 by rw [show (wP x).length = 2 from rfl]; omega, ← List.drop_drop, List.drop_left]
theorem wC_take (l : List (Int × Int)) (k : Nat) : (wC l).take (k * 2) = wC (l.take k) := by
  induction k generalizing l with
  | zero => simp [wC]
  | succ k ih =>
    cases l with
    | nil => simp [wC]
    | cons x r =>
      rw [List.take_succ_cons]
      simp only [wC, List.flatMap_cons] at *
      rw [← ih, show (k + 1) * 2 = (wP x).length + k * 2 by rw [show (wP x).length = 2 from rfl]; omega, List.take_length_add_append]
theorem erase_eq {α : Type} (l : List α) (i : Nat) : l.take i ++ l.drop (i + 1) = l.eraseIdx i := (List.eraseIdx_eq_take_drop_succ l i).symm

/-- The blocks of a lane. -/
def fp (b : Nat) (a1 a2 : Option Addr) (k : Nat) : Prop := k = b ∨ blk a1 = some k ∨ blk a2 = some k

/-- A lane at the block b, its lists at a1 and a2. -/
structure LnAt (w : World) (T : TypeId) (b : Nat) (s : LS) (a1 : Option Addr) (c1 : Nat) (a2 : Option Addr) (c2 : Nat) : Prop where
  obj : w.heap[b]? = some (.cells #[.int .i64 s.room, .slice a1 s.vs.length c1, .slice a2 s.ws.length c2, .int .i64 s.tk, .int .i64 s.dr] T (0, 0))
  vals : Row w 2 1 a1 s.vs.length c1 (iC s.vs)
  wts : Row w 52 2 a2 s.ws.length c2 (wC s.ws)
  f1 : ∀ k, blk a1 = some k → k ≠ b
  f2 : ∀ k, blk a2 = some k → k ≠ b ∧ blk a1 ≠ some k

section
variable {w w' : World} {T : TypeId} {b : Nat} {s : LS} {a1 a2 : Option Addr} {c1 c2 : Nat}
theorem LnAt.lt (h : LnAt w T b s a1 c1 a2 c2) : ∀ k, fp b a1 a2 k → k < w.heap.size := fun k hk => by
  rcases hk with rfl | hk | hk
  · exact (Array.getElem?_eq_some_iff.1 h.obj).1
  · exact h.vals.lt k hk
  · exact h.wts.lt k hk
theorem LnAt.blt (h : LnAt w T b s a1 c1 a2 c2) : b < w.heap.size := h.lt b (.inl rfl)
theorem LnAt.kept (h : LnAt w T b s a1 c1 a2 c2) (hk : ∀ k, fp b a1 a2 k → w'.heap[k]? = w.heap[k]?) : LnAt w' T b s a1 c1 a2 c2 :=
  ⟨by rw [hk b (.inl rfl)]; exact h.obj, h.vals.kept fun k hk' => hk k (.inr (.inl hk')), h.wts.kept fun k hk' => hk k (.inr (.inr hk')), h.f1, h.f2⟩
theorem LnAt.below (h : LnAt w T b s a1 c1 a2 c2) (hb : Below w.heap.size w w') : LnAt w' T b s a1 c1 a2 c2 := h.kept fun k hk => hb.block k (h.lt k hk)
theorem LnAt.mod {S : Nat → Prop} (h : LnAt w T b s a1 c1 a2 c2) (hm : Mod S w w') (hn : ∀ k, fp b a1 a2 k → ¬ S k) : LnAt w' T b s a1 c1 a2 c2 := h.kept fun k hk => hm.block k (h.lt k hk) (hn k hk)
theorem LnAt.cells (h : LnAt w T b s a1 c1 a2 c2) : w.cell? ⟨b, 0, none⟩ = some (.int .i64 s.room) ∧ w.cell? ⟨b, 1, none⟩ = some (.slice a1 s.vs.length c1) ∧ w.cell? ⟨b, 2, none⟩ = some (.slice a2 s.ws.length c2) ∧ w.cell? ⟨b, 3, none⟩ = some (.int .i64 s.tk) ∧ w.cell? ⟨b, 4, none⟩ = some (.int .i64 s.dr) := by
  refine ⟨?_, ?_, ?_, ?_, ?_⟩ <;> (rw [cell_of_row _ _ _ _ _ _ h.obj]; rfl)
theorem LnAt.free (h : LnAt w T b s a1 c1 a2 c2) (i : Nat) : w.frozen? ⟨b, i, none⟩ = false := by simp [World.frozen?, h.obj]

theorem heap_setCell_self {w : World} {b i : Nat} {cs : Array Value} {t : TypeId} {fr : Nat × Nat} (h : w.heap[b]? = some (.cells cs t fr)) (u : Value) : (w.setCell ⟨b, i, none⟩ u).heap[b]? = some (.cells (cs.setIfInBounds i u) t fr) := by
  simp [World.setCell, Array.getElem?_modify, h]

/-- The messages changed, in the list's own memory or in new memory, and then laid down. -/
theorem LnAt.putV (h : LnAt w T b s a1 c1 a2 c2) (hm : Mod (fun k => blk a1 = some k) w w') {a1' : Option Addr} {vs' : List Int} {n c1' : Nat} (hR : Row w' 2 1 a1' n c1' (iC vs')) (hl : n = vs'.length) (hn : ∀ k, blk a1' = some k → blk a1 = some k ∨ w.heap.size ≤ k) :
    LnAt (w'.setCell ⟨b, 1, none⟩ (.slice a1' n c1')) T b { s with vs := vs' } a1' c1' a2 c2 := by
  subst hl
  have hlt := h.lt
  have hb' : w'.heap[b]? = w.heap[b]? := hm.block b h.blt (fun e => h.f1 b e rfl)
  have hk' : ∀ k, k ≠ b → (w'.setCell ⟨b, 1, none⟩ (.slice a1' vs'.length c1')).heap[k]? = w'.heap[k]? := fun k hk => Below.heap_setCell _ _ _ _ hk
  have n1 : ∀ k, blk a1' = some k → k ≠ b := fun k hk => by
    rcases hn k hk with h1 | h1
    · exact h.f1 k h1
    · have := h.blt; omega
  have n2 : ∀ k, blk a2 = some k → blk a1' ≠ some k := fun k hk e => by
    rcases hn k e with h1 | h1
    · exact (h.f2 k hk).2 h1
    · have := hlt k (.inr (.inr hk)); omega
  refine ⟨?_, hR.kept fun k hk => hk' k (n1 k hk), (h.wts.mod hm fun k hk => (h.f2 k hk).2).kept fun k hk => hk' k (h.f2 k hk).1, n1, fun k hk => ⟨(h.f2 k hk).1, n2 k hk⟩⟩
  rw [heap_setCell_self (hb'.trans h.obj)]
  rfl
/-- Those who wait, likewise. -/
theorem LnAt.putW (h : LnAt w T b s a1 c1 a2 c2) (hm : Mod (fun k => blk a2 = some k) w w') {a2' : Option Addr} {ws' : List (Int × Int)} {n c2' : Nat} (hR : Row w' 52 2 a2' n c2' (wC ws')) (hl : n = ws'.length) (hn : ∀ k, blk a2' = some k → blk a2 = some k ∨ w.heap.size ≤ k) :
    LnAt (w'.setCell ⟨b, 2, none⟩ (.slice a2' n c2')) T b { s with ws := ws' } a1 c1 a2' c2' := by
  subst hl
  have hlt := h.lt
  have hb' : w'.heap[b]? = w.heap[b]? := hm.block b h.blt (fun e => (h.f2 b e).1 rfl)
  have hk' : ∀ k, k ≠ b → (w'.setCell ⟨b, 2, none⟩ (.slice a2' ws'.length c2')).heap[k]? = w'.heap[k]? := fun k hk => Below.heap_setCell _ _ _ _ hk
  have n1 : ∀ k, blk a2' = some k → k ≠ b := fun k hk => by
    rcases hn k hk with h1 | h1
    · exact (h.f2 k h1).1
    · have := h.blt; omega
  have n2 : ∀ k, blk a2' = some k → blk a1 ≠ some k := fun k hk e => by
    rcases hn k hk with h1 | h1
    · exact (h.f2 k h1).2 e
    · have := hlt k (.inr (.inl e)); omega
  refine ⟨?_, (h.vals.mod hm fun k hk e => (h.f2 k e).2 hk).kept fun k hk => hk' k (h.f1 k hk), hR.kept fun k hk => hk' k (n1 k hk), h.f1, fun k hk => ⟨n1 k hk, n2 k hk⟩⟩
  rw [heap_setCell_self (hb'.trans h.obj)]
  rfl
theorem LnAt.putT (h : LnAt w T b s a1 c1 a2 c2) (x : Int) : LnAt (w.setCell ⟨b, 3, none⟩ (.int .i64 x)) T b { s with tk := x } a1 c1 a2 c2 := by
  have hk' : ∀ k, k ≠ b → (w.setCell ⟨b, 3, none⟩ (.int .i64 x)).heap[k]? = w.heap[k]? := fun k hk => Below.heap_setCell _ _ _ _ hk
  refine ⟨?_, h.vals.kept fun k hk => hk' k (h.f1 k hk), h.wts.kept fun k hk => hk' k (h.f2 k hk).1, h.f1, h.f2⟩
  rw [heap_setCell_self h.obj]
  rfl
theorem LnAt.putD (h : LnAt w T b s a1 c1 a2 c2) (x : Int) : LnAt (w.setCell ⟨b, 4, none⟩ (.int .i64 x)) T b { s with dr := x } a1 c1 a2 c2 := by
  have hk' : ∀ k, k ≠ b → (w.setCell ⟨b, 4, none⟩ (.int .i64 x)).heap[k]? = w.heap[k]? := fun k hk => Below.heap_setCell _ _ _ _ hk
  refine ⟨?_, h.vals.kept fun k hk => hk' k (h.f1 k hk), h.wts.kept fun k hk => hk' k (h.f2 k hk).1, h.f1, h.f2⟩
  rw [heap_setCell_self h.obj]
  rfl
end

/-- A lane at b; its blocks are among F. -/
def Ln (w : World) (T : TypeId) (b : Nat) (F : Nat → Prop) (s : LS) : Prop := ∃ a1 c1 a2 c2, LnAt w T b s a1 c1 a2 c2 ∧ (∀ k, fp b a1 a2 k → F k) ∧ ∀ k, F k → k < w.heap.size

theorem Ln.mod {w w' : World} {T : TypeId} {b : Nat} {F S : Nat → Prop} {s : LS} (h : Ln w T b F s) (hm : Mod S w w') (hn : ∀ k, F k → ¬ S k) : Ln w' T b F s := by
  obtain ⟨a1, c1, a2, c2, h1, h2, h3⟩ := h
  exact ⟨a1, c1, a2, c2, h1.mod hm fun k hk => hn k (h2 k hk), h2, fun k hk => Nat.lt_of_lt_of_le (h3 k hk) hm.size⟩
theorem Ln.below {w w' : World} {T : TypeId} {b : Nat} {F : Nat → Prop} {s : LS} (h : Ln w T b F s) (hb : Below w.heap.size w w') : Ln w' T b F s := h.mod (Mod.of_below (fun _ => False) hb) (fun _ _ h => h)
theorem Ln.lt {w : World} {T : TypeId} {b : Nat} {F : Nat → Prop} {s : LS} (h : Ln w T b F s) : ∀ k, F k → k < w.heap.size := by
  obtain ⟨a1, c1, a2, c2, h1, h2, h3⟩ := h
  exact h3
theorem Ln.at {w : World} {T : TypeId} {b : Nat} {F : Nat → Prop} {s : LS} (h : Ln w T b F s) : F b := by
  obtain ⟨a1, c1, a2, c2, h1, h2, h3⟩ := h
  exact h2 b (.inl rfl)
theorem LnAt.ln {w : World} {T : TypeId} {b : Nat} {s : LS} {a1 a2 : Option Addr} {c1 c2 : Nat} (h : LnAt w T b s a1 c1 a2 c2) : Ln w T b (fp b a1 a2) s := ⟨a1, c1, a2, c2, h, fun _ h => h, h.lt⟩

/-- What a call leaves of a lane. -/
def LnOut (w : World) (T : TypeId) (b : Nat) (F : Nat → Prop) (s' : LS) (w' : World) : Prop := Mod F w w' ∧ ∃ F', Ln w' T b F' s' ∧ ∀ k, F' k → F k ∨ w.heap.size ≤ k
theorem LnOut.same {w w' : World} {T : TypeId} {b : Nat} {F : Nat → Prop} {s : LS} (h : Ln w T b F s) (hb : Below w.heap.size w w') : LnOut w T b F s w' := ⟨Mod.of_below _ hb, F, h.below hb, fun _ h => .inl h⟩
end Go.Proofs.Ytknklbojcnhjcaa
