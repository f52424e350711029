/- What the laws' own walks need: cuts, a list of ints, an append of whatever source. -/
import Derived.Test.YtaikeeidjfcijaaW12
import Derived.Laws.AppendOwnNone
namespace Go.Proofs.Ytaikeeidjfcijaa
open Go.RowKit Go.Maps

/-- Ints as the cells of a list of ints. -/
def iCells (z : List Int) : List Value := z.map (Value.int .i64)
theorem iCells_len (z : List Int) : (iCells z).length = z.length := by simp [iCells]
theorem i_at (z : List Int) (k : Nat) (h : k < z.length) : (iCells z)[k]? = some (.int .i64 (z.getD k 0)) := by
  simp [iCells, List.getD_eq_getElem?_getD, h]
theorem i_ne (z : List Int) (k : Nat) (h : k < z.length) : iCells z ≠ [] := fun e => by
  have := iCells_len z
  rw [e] at this; simp at this; omega
theorem i_one (z : List Int) : ∀ u ∈ iCells z, u.oneCell' = true := ints_oneCell _ _

theorem Cells.take {w : World} {a : Option Addr} {vs : List Value} (h : Cells w a vs) (m : Nat) : Cells w a (vs.take m) := fun hne => by
  obtain ⟨b, off, e, hc⟩ := h (fun e => hne (by rw [e]; simp))
  refine ⟨b, off, e, fun i u hu => hc i u ?_⟩
  rw [List.getElem?_take] at hu
  split at hu
  · exact hu
  · cases hu
theorem labCells_take (l : List Nat) (m : Nat) : labCells (l.take m) = (labCells l).take m := by simp [labCells]
theorem iCells_take (l : List Int) (m : Nat) : iCells (l.take m) = (iCells l).take m := by simp [iCells]
theorem cells_take_lab {w : World} {a : Option Addr} {l : List Nat} (h : Cells w a (labCells l)) (m : Nat) : Cells w a (labCells (l.take m)) := by rw [labCells_take]; exact h.take m
theorem cells_take_i {w : World} {a : Option Addr} {l : List Int} (h : Cells w a (iCells l)) (m : Nat) : Cells w a (iCells (l.take m)) := by rw [iCells_take]; exact h.take m

theorem cut300 (n : Nat) : (if (300 : Int) < (n : Int) then (300 : Int) else (n : Int)) = ((min 300 n : Nat) : Int) := by split <;> omega
theorem cut100 (n : Nat) : (if (100 : Int) < (n : Int) then (100 : Int) else (n : Int)) = ((min 100 n : Nat) : Int) := by split <;> omega
theorem cut8 (n : Nat) : (if (8 : Int) < (n : Int) then (8 : Int) else (n : Int)) = ((min 8 n : Nat) : Int) := by split <;> omega
theorem cutM (n : Nat) : (if (1048576 : Int) < (n : Int) then (1048576 : Int) else (n : Int)) = ((min 1048576 n : Nat) : Int) := by split <;> omega

/-- The first labels of a list, under a name of their own. -/
theorem take_lab (l : List Nat) (m : Nat) : ∃ t : List Nat, t = l.take m ∧ t.length = min m l.length := ⟨_, rfl, by simp⟩

theorem getD_take_lt {l : List Nat} {B : Nat} (h : ∀ i, l.getD i 0 < B) (m i : Nat) : (l.take m).getD i 0 < B := by
  have := h i
  have h0 := h l.length
  simp only [List.getD_eq_getElem?_getD] at this h0 ⊢
  rw [List.getElem?_take]
  split
  · exact this
  · simp at h0 ⊢; omega

theorem none_cap {w : World} {B n : Nat} {e : TypeId} {a : Option Addr} {cap : Nat} {vs : List Value} (h : w.ownsRow B e 1 (.slice a n cap) n vs) : a = none → cap = 0 := by
  intro e
  subst e
  obtain ⟨_, h2⟩ := h
  rcases h2 with ⟨h, _⟩ | ⟨g, cap, cur, h, _⟩
  · cases h; rfl
  · cases h

/-- 'append' onto a row of the call's own, whatever the shape of what is appended. -/
theorem wpList_append_any {P : Program} (w : World) {ops : Array Oper} {rest : List Oper} {o : Oper} {a : Act} {Q : Exit → Act → World → Prop} (hgd : o.guard = none) (s x : Operand) (t : TypeId)
    (ho : o.op = .call { callee := .builtin .append, args := #[s, x], argTypes := #[t, t] })
    (base : Nat) (e : TypeId) (i : TypeInfo) (z : Value) (size bytes : Nat) (ht : P.underlying t = some (.slice e)) (hi : P.info? e = some i) (hz : i.zero = some z)
    (hsize : i.size = size) (hby : i.bytes = bytes) (hzs : z.cells.size = size) (hsz : 0 < size)
    (v : Value) (n : Nat) (xs : List Value) (hs : a.eval s = v) (hown : w.ownsRow base e size v n xs)
    (ao : Option Addr) (m c : Nat) (news : List Value) (hx : a.eval x = .slice ao m c) (hl : news.length = m * size) (hnone : ao = none → m = 0 ∧ c = 0) (hnews : ∀ ad, ao = some ad → ∀ j u, news[j]? = some u → w.cell? (ad.add j) = some u) (h1 : ∀ u ∈ news, u.oneCell' = true)
    (h63 : n + m ≤ maxLen) (hbytes : (n + m) * bytes ≤ 140737488355328) (hbase : base ≤ w.heap.size)
    (h : ∀ v' w', w'.ownsRow base e size v' (n + m) (xs ++ news) → w.grownBy w' v.ownBlock → wpList P ops Q rest (a.put o.dst v') w') : wpList P ops Q (o :: rest) a w := by
  cases ao with
  | some ad => exact wpList_append_own w hgd s x t ho base e i z size bytes ht hi hz hsize hby hzs hsz v n xs hs hown ad m c news hx hl (hnews ad rfl) h1 h63 hbytes hbase (fun v' w' h2 h3 _ => h v' w' h2 h3)
  | none =>
    obtain ⟨rfl, rfl⟩ := hnone rfl
    have hn : news = [] := List.eq_nil_of_length_eq_zero (by simpa using hl)
    subst hn
    exact wpList_append_own_none hgd s x t ho base e i size ht hi v n xs hs hown hx (h v w (by simpa using hown) (World.grownBy.refl _ _))

theorem sameInts_at (n n' : Nat) (a a' : Option Addr) (cap cap' : Nat) (l : List Nat) (w : World) (hn : n = l.length) (hn' : n' = l.length) (hC : Cells w a (intCells l)) (hC' : Cells w a' (intCells l)) (hlen : l.length ≤ 2000000) :
    Calls Try.prog 19 #[.slice a n cap, .slice a' n' cap'] w fun e w' => e = .returned (.bool true) ∧ Below w.heap.size w w' := by
  subst hn hn'
  exact (sameInts_yes a a' cap cap' l w hC hC' hlen).mono fun e w' ⟨h1, h2⟩ => ⟨h1, below_draw h2⟩
theorem sameLabels_at (n n' : Nat) (a a' : Option Addr) (cap cap' : Nat) (l : List Nat) (w : World) (hn : n = l.length) (hn' : n' = l.length) (hC : Cells w a (labCells l)) (hC' : Cells w a' (labCells l)) (hlen : l.length ≤ 2000000) :
    Calls Try.prog 13 #[.slice a n cap, .slice a' n' cap'] w fun e w' => e = .returned (.bool true) ∧ Below w.heap.size w w' := by
  subst hn hn'
  exact (sameLabels_yes a a' cap cap' l w hC hC' hlen).mono fun e w' ⟨h1, h2⟩ => ⟨h1, below_draw h2⟩
end Go.Proofs.Ytaikeeidjfcijaa
