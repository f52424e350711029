/- Rows, lists that can be read, and what a call leaves. -/
import Derived.Test.YtjbmljheepomnaaVM1
import Derived.WalkSpells
import Derived.WalkLawsBesides
import Derived.Deep.Quiet
import Derived.Deep.QuietTactic
import Derived.BigQuiet
import Derived.Laws.AppendOwn
import Derived.Deep.AppendLies
import Derived.Laws.BitsAllLaws
import Derived.Deep.LoopGhost
import Derived.Deep.RegionHeld3
import Derived.Deep.CondSized
import Derived.Deep.DeepCutAuto
import Derived.Deep.CutRange
import Derived.Deep.CutBlock
import Derived.Laws.MakeOwn
namespace Go.Proofs.Ytjbmljheepomnaa
open Go.RowKit

theorem ret_bool {a b : Bool} (h : a = b) : Ending.returned (.bool a) = .returned (.bool b) := by rw [h]
theorem info_parts {t : TypeId} {z : Value} {s b : Nat} (h : (Try.prog.info? t).map (fun i => (i.zero, i.size, i.bytes)) = some (some z, s, b)) : ∃ i, Try.prog.info? t = some i ∧ i.zero = some z ∧ i.size = s ∧ i.bytes = b := by
  cases hh : Try.prog.info? t with
  | none => rw [hh] at h; cases h
  | some i => rw [hh] at h; simp at h; exact ⟨i, rfl, h.1, h.2.1, h.2.2⟩
/-- One more of a row of whatever, as append leaves it. -/
theorem push_any {T e : TypeId} {z : Value} {size bytes : Nat} (hu : Try.prog.underlying T = some (.slice e)) (hinfo : (Try.prog.info? e).map (fun i => (i.zero, i.size, i.bytes)) = some (some z, size, bytes)) (hzs : z.cells.size = size) (hb64 : bytes ≤ 64)
    {w : World} {a : Option Addr} {n c : Nat} {xs : List Value} (hR : Row w e size a n c xs) (hn : n ≤ 1000000000000) (us : List Value) (hus : us.length = size) (h1 : ∀ u ∈ us, u.oneCell' = true) :
    ∃ a' c' w', (∀ ty, (Builtin.append_ #[T, T] ty #[.slice a n c, .slice (some ⟨w.heap.size, 0, none⟩) 1 1]).run Try.prog (w.alloc (.cells us.toArray e)) = .ok (.slice a' (n + 1) c') w') ∧
      Row w' e size a' (n + 1) c' (xs ++ us) ∧ Mod (fun k => blk a = some k) w w' ∧ (∀ k, blk a' = some k → blk a = some k ∨ w.heap.size ≤ k) := by
  obtain ⟨i, k1, k2, k3, k4⟩ := info_parts hinfo
  have hb := below_al w (.cells us.toArray e)
  have hh := heap_alloc_new w (.cells us.toArray e)
  have hs : Src Try.prog size T (.slice (some ⟨w.heap.size, 0, none⟩) 1 1) 1 us (w.alloc (.cells us.toArray e)) := by
    refine Src.ofSlice _ hu _ _ _ _ (by omega) (fun j u hj => ?_) h1
    rw [addr_add, cell_of_row _ _ _ _ _ _ hh, Nat.zero_add]
    simpa using hj
  obtain ⟨a', c', w', m1, m2, m3, m4, _⟩ := run_append_row (P := Try.prog) _ T e i _ size bytes hu k1 k2 k3 k4 hzs (hR.below hb) _ 1 _ hs (by unfold maxLen; omega) (by
    have : (n + 1) * bytes ≤ (n + 1) * 64 := Nat.mul_le_mul_left _ hb64
    omega)
  refine ⟨a', c', w', m1, m2, (Mod.of_below _ hb).trans m3 (fun _ h => .inl h), fun k hk => ?_⟩
  rcases m4 k hk with h | h
  · exact .inl h
  · exact .inr (by have := hb.size; omega)
/-- At an append whose run is known. -/
theorem wpList_append_run {P : Program} {w : World} {ops : Array Oper} {rest : List Oper} {o : Oper} {a : Act} {Q : Exit → Act → World → Prop} (hgd : o.guard = none) (s x : Operand) (t : TypeId)
    (ho : o.op = .call { callee := .builtin .append, args := #[s, x], argTypes := #[t, t] }) (v vx v' : Value) (w' : World) (hs : a.eval s = v) (hx : a.eval x = vx)
    (hrun : ∀ ty, (Builtin.append_ #[t, t] ty #[v, vx]).run P w = .ok v' w') (h : wpList P ops Q rest (a.put o.dst v') w') : wpList P ops Q (o :: rest) a w :=
  wpList_plain hgd fun K hK => by
    unfold Oper.wp execOp
    simp only [ho, resolve, invoke, builtin, Sem.run_bind, Sem.run_pure, Result.andThen_ok, List.map_toArray, List.map_cons, List.map_nil, hs, hx, hrun]
    exact hK _ _ h
theorem step_append_run {P : Program} {w : World} {ops : Array Oper} {o : Oper} {a : Act} {K : Act → World → Prop} {Q : Exit → Act → World → Prop} {E : Prop} (hgd : o.guard = none) (s x : Operand) (t : TypeId)
    (ho : o.op = .call { callee := .builtin .append, args := #[s, x], argTypes := #[t, t] }) (v vx v' : Value) (w' : World) (hs : a.eval s = v) (hx : a.eval x = vx)
    (hrun : ∀ ty, (Builtin.append_ #[t, t] ty #[v, vx]).run P w = .ok v' w') (h : K (a.put o.dst v') w') : if Region.wanted o (yielded ops a.tmps) = true then Oper.wp P o a w K Q else E := by
  have hw : Region.wanted o (yielded ops a.tmps) = true := by simp [Region.wanted, hgd]
  rw [if_pos hw]
  unfold Oper.wp execOp
  simp only [ho, resolve, invoke, builtin, Sem.run_bind, Sem.run_pure, Result.andThen_ok, List.map_toArray, List.map_cons, List.map_nil, hs, hx, hrun]
  exact h
theorem below_draw (w : World) (n : Nat) : Below w.heap.size w (w.drewN n) := ⟨rfl, rfl, rfl, Nat.le_refl _, fun _ _ => rfl⟩
theorem bel_drew (w : World) : Below w.heap.size w w.drew := below_draw w 1
theorem bel_dr {w w' : World} (h : Below w.drew.heap.size w.drew w') : Below w.heap.size w w' := (bel_drew w).trans h
def BIG : Nat := 17592186044416
/-- The cells of a list's elements, each of a size, each as its relation says. -/
def DeR {α : Type} [Inhabited α] (sz : Nat) (E : World → List Value → α → Prop) (w : World) (v : Value) (xs : List α) : Prop :=
  ∃ (a : Option Addr) (c : Nat) (cs : List (List Value)), v = .slice a xs.length c ∧ Rd w a cs.flatten ∧ cs.length = xs.length ∧ xs.length ≤ BIG ∧ ∀ i, i < xs.length → (cs.getD i []).length = sz ∧ E w (cs.getD i []) (xs.getD i default)
theorem flat_lens {sz : Nat} : ∀ (cs : List (List Value)), (∀ i, i < cs.length → (cs.getD i []).length = sz) → cs.flatten.length = cs.length * sz
  | [], _ => by simp
  | x :: t, h => by
    have h0 := h 0 (by simp)
    have ih := flat_lens t (fun i hi => by have := h (i + 1) (by simpa using hi); simpa using this)
    simp only [List.getD_cons_zero] at h0
    rw [List.flatten_cons, List.length_append, ih, h0, List.length_cons, Nat.succ_mul]
    omega
theorem flat_cell {sz : Nat} : ∀ (cs : List (List Value)), (∀ i, i < cs.length → (cs.getD i []).length = sz) → ∀ i j, i < cs.length → j < sz → cs.flatten[i * sz + j]? = (cs.getD i [])[j]?
  | [], _, i, _, hi, _ => absurd hi (Nat.not_lt_zero i)
  | x :: t, h, 0, j, _, hj => by
    have h0 := h 0 (by simp)
    simp only [List.getD_cons_zero] at h0 ⊢
    rw [Nat.zero_mul, Nat.zero_add, List.flatten_cons, List.getElem?_append_left (by omega)]
  | x :: t, h, i + 1, j, hi, hj => by
    have h0 := h 0 (by simp)
    simp only [List.getD_cons_zero] at h0
    have ih := flat_cell t (fun i hi => by have := h (i + 1) (by simpa using hi); simpa using this) i j (by simpa using hi) hj
    rw [List.flatten_cons, List.getElem?_append_right (by rw [h0, Nat.succ_mul]; omega), h0, show (i + 1) * sz + j - sz = i * sz + j by rw [Nat.succ_mul]; omega, ih]
    simp
section
variable {α : Type} [Inhabited α] {sz : Nat} {E : World → List Value → α → Prop} {w w' : World} {v : Value} {xs : List α}
theorem DeR.below (h : DeR sz E w v xs) (hb : Below w.heap.size w w') (hE : ∀ cs x, E w cs x → E w' cs x) : DeR sz E w' v xs := by
  obtain ⟨a, c, cs, h1, h2, h3, h4, h5⟩ := h
  exact ⟨a, c, cs, h1, h2.below hb, h3, h4, fun i hi => ⟨(h5 i hi).1, hE _ _ (h5 i hi).2⟩⟩
/-- The elements at a place, in memory. -/
theorem DeR.at' (h : DeR sz E w v xs) (hs : 0 < sz) : ∃ (a : Option Addr) (c : Nat), v = .slice a xs.length c ∧ xs.length ≤ BIG ∧ ∀ i, i < xs.length → ∃ (g o : Nat) (cs : List Value), a = some ⟨g, o, none⟩ ∧ cs.length = sz ∧ E w cs (xs.getD i default) ∧ ∀ W, Below w.heap.size w W → ∀ j u, cs[j]? = some u → W.cell? ⟨g, o + i * sz + j, none⟩ = some u := by
  obtain ⟨a, c, cs, h1, h2, h3, h4, h5⟩ := h
  refine ⟨a, c, h1, h4, fun i hi => ?_⟩
  obtain ⟨e1, e2⟩ := h5 i hi
  have key := fun j hj => flat_cell (sz := sz) cs (fun i hi => (h5 i (by omega)).1) i j (by omega) hj
  obtain ⟨g, o, ea, -⟩ := h2 (i * sz + 0) _ ((key 0 hs).trans (List.getElem?_eq_getElem (by omega)))
  refine ⟨g, o, cs.getD i [], ea, e1, e2, fun W hb j u hj => ?_⟩
  have hjs : j < sz := by
    have := (List.getElem?_eq_some_iff.1 hj).1
    omega
  obtain ⟨g2, o2, ea2, hc⟩ := h2 (i * sz + j) u ((key j hjs).trans hj)
  rw [ea] at ea2
  cases ea2
  rw [show o + i * sz + j = o + (i * sz + j) by omega]
  exact (hb.cell (World.block_lt_of_cell? w _ hc)).trans hc
theorem DeR.nil : DeR sz E w (.slice none 0 0) [] := ⟨none, 0, [], rfl, (fun j u hj => by simp at hj), rfl, Nat.zero_le _, fun i hi => absurd hi (Nat.not_lt_zero i)⟩
end
def iE (_ : World) (cs : List Value) (x : Int) : Prop := cs = [.int .i64 x]
def wE (_ : World) (cs : List Value) (x : Int × Int) : Prop := cs = [.int .i64 x.1, .int .i64 x.2]
def eE (_ : World) (cs : List Value) (x : Int × Int × Int) : Prop := cs = [.int .i64 x.1, .int .i64 x.2.1, .int .i64 x.2.2]
def qE (w : World) (cs : List Value) (x : List Int) : Prop := ∃ v, cs = [v] ∧ DeR 1 iE w v x
def lE (w : World) (cs : List Value) (x : LnX) : Prop := ∃ v1 v2, cs = [v1, v2, .int .i64 x.tk, .int .i64 x.dr] ∧ DeR 1 iE w v1 x.vs ∧ DeR 2 wE w v2 x.ws
def pE (w : World) (cs : List Value) (x : PtX) : Prop := ∃ v1 v4 v5, cs = [.int .i64 x.cu, v1, .int .i64 x.lo, .int .i64 x.fo, v4, v5] ∧ DeR 3 eE w v1 x.lg ∧ DeR 1 iE w v4 x.os ∧ DeR 1 qE w v5 x.qs
def rE (w : World) (cs : List Value) (x : PrX) : Prop := ∃ v, cs = [.int .i64 x.st, .int .i64 x.pc, .int .i64 x.r.r0, .int .i64 x.r.r1, .int .i64 x.r.r2, .int .i64 x.r.r3, .int .i64 x.r.r4, .int .i64 x.r.r5, .int .i64 x.r.r6, .int .i64 x.r.r7, .int .i64 x.cu, .int .i64 x.ti, .bool x.fi, .int .i64 x.wk, v] ∧ DeR 4 lE w v x.ls
def sE (w : World) (cs : List Value) (x : StX) : Prop := ∃ v1 v2, cs = [.int .i64 x.tk, v1, v2] ∧ DeR 6 pE w v1 x.ps ∧ DeR 15 rE w v2 x.qs
section
variable {w w' : World} {cs : List Value} (hb : Below w.heap.size w w')
include hb
theorem qE.below {x : List Int} (h : qE w cs x) : qE w' cs x := by
  obtain ⟨v, e, h⟩ := h
  exact ⟨v, e, h.below hb fun _ _ h => h⟩
theorem lE.below {x : LnX} (h : lE w cs x) : lE w' cs x := by
  obtain ⟨v1, v2, e, h1, h2⟩ := h
  exact ⟨v1, v2, e, h1.below hb fun _ _ h => h, h2.below hb fun _ _ h => h⟩
theorem pE.below {x : PtX} (h : pE w cs x) : pE w' cs x := by
  obtain ⟨v1, v4, v5, e, h1, h2, h3⟩ := h
  exact ⟨v1, v4, v5, e, h1.below hb fun _ _ h => h, h2.below hb fun _ _ h => h, h3.below hb fun _ _ h => h.below hb⟩
theorem rE.below {x : PrX} (h : rE w cs x) : rE w' cs x := by
  obtain ⟨v, e, h⟩ := h
  exact ⟨v, e, h.below hb fun _ _ h => h.below hb⟩
theorem sE.below {x : StX} (h : sE w cs x) : sE w' cs x := by
  obtain ⟨v1, v2, e, h1, h2⟩ := h
  exact ⟨v1, v2, e, h1.below hb fun _ _ h => h.below hb, h2.below hb fun _ _ h => h.below hb⟩
end
end Go.Proofs.Ytjbmljheepomnaa
