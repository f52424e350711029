/- Lists in memory of their own. -/
import Derived.Test.YtjbmljheepomnaaVC1
namespace Go.Proofs.Ytjbmljheepomnaa
open Go.RowKit

/-- The i-th element's cells. -/
def el (sz : Nat) (L : List Value) (i : Nat) : List Value := (L.drop (i * sz)).take sz
theorem el_len {sz : Nat} {L : List Value} {n i : Nat} (hl : L.length = n * sz) (hi : i < n) : (el sz L i).length = sz := by
  have : (i + 1) * sz ≤ n * sz := Nat.mul_le_mul_right _ hi
  rw [Nat.succ_mul] at this
  simp [el]
  omega
theorem el_one (L : List Value) (i : Nat) (hi : i < L.length) : el 1 L i = [L.getD i undef] := by
  unfold el
  rw [Nat.mul_one, List.getD_eq_getElem?_getD, List.getElem?_eq_getElem hi, List.drop_eq_getElem_cons hi]
  rfl
theorem chunks_flat (sz : Nat) (L : List Value) : ∀ n, ((List.range n).map fun i => el sz L i).flatten = L.take (n * sz)
  | 0 => by simp
  | n + 1 => by
    rw [List.range_succ, List.map_append, List.flatten_append, chunks_flat sz L n]
    simp only [List.map_cons, List.map_nil, List.flatten_cons, List.flatten_nil, List.append_nil, el]
    rw [Nat.succ_mul, List.take_add]
theorem el_flat {sz : Nat} : ∀ (cs : List (List Value)), (∀ i, i < cs.length → (cs.getD i []).length = sz) → ∀ i, i < cs.length → el sz cs.flatten i = cs.getD i []
  | [], _, i, hi => absurd hi (Nat.not_lt_zero i)
  | x :: t, h, 0, _ => by
    have h0 := h 0 (by simp)
    simp only [List.getD_cons_zero] at h0 ⊢
    unfold el
    rw [Nat.zero_mul, List.drop_zero, List.flatten_cons, List.take_append_of_le_length (by omega), List.take_of_length_le (by omega)]
  | x :: t, h, i + 1, hi => by
    have h0 := h 0 (by simp)
    simp only [List.getD_cons_zero] at h0
    have ih := el_flat t (fun i hi => by have := h (i + 1) (by simpa using hi); simpa using this) i (by simpa using hi)
    unfold el at ih ⊢
    rw [List.flatten_cons, List.drop_append, List.drop_of_length_le (by rw [h0, Nat.succ_mul]; omega), h0, show (i + 1) * sz - sz = i * sz by rw [Nat.succ_mul]; omega, List.nil_append, ih]
    simp
def OwD {α : Type} [Inhabited α] (T : TypeId) (sz : Nat) (E : Nat → Nat → World → List Value → α → Prop) (lo hi : Nat) (w : World) (v : Value) (xs : List α) : Prop :=
  ∃ (a : Option Addr) (c : Nat) (L : List Value) (b : Nat → Nat), v = .slice a xs.length c ∧ Row w T sz a xs.length c L ∧ (∀ k, blk a = some k → lo ≤ k ∧ k < b 0) ∧ lo ≤ b 0 ∧ (∀ i, i < xs.length → b i ≤ b (i + 1)) ∧ b xs.length ≤ hi ∧ xs.length ≤ BIG ∧ ∀ i, i < xs.length → E (b i) (b (i + 1)) w (el sz L i) (xs.getD i default)
theorem mono_le {b : Nat → Nat} : ∀ (n : Nat), (∀ i, i < n → b i ≤ b (i + 1)) → ∀ i, i ≤ n → b 0 ≤ b i ∧ b i ≤ b n
  | 0, _, i, hi => by
    obtain rfl : i = 0 := by omega
    exact ⟨Nat.le_refl _, Nat.le_refl _⟩
  | n + 1, h, i, hi => by
    have h1 := mono_le n (fun i hi => h i (by omega))
    have h2 := h n (by omega)
    by_cases e : i ≤ n
    · have := h1 i e
      exact ⟨this.1, by omega⟩
    · obtain rfl : i = n + 1 := by omega
      have := h1 n (Nat.le_refl _)
      exact ⟨by omega, Nat.le_refl _⟩
section
variable {α : Type} [Inhabited α] {T : TypeId} {sz : Nat} {E : Nat → Nat → World → List Value → α → Prop} {lo hi : Nat} {w w' : World} {v : Value} {xs : List α}
theorem OwD.kept (h : OwD T sz E lo hi w v xs) (hk : ∀ k, lo ≤ k → k < hi → w'.heap[k]? = w.heap[k]?) (hE : ∀ l u cs x, lo ≤ l → u ≤ hi → E l u w cs x → E l u w' cs x) : OwD T sz E lo hi w' v xs := by
  obtain ⟨a, c, L, b, h1, h2, h3, h4, h5, h6, h7, h8⟩ := h
  have hm := mono_le _ h5
  refine ⟨a, c, L, b, h1, h2.kept fun k hk' => ?_, h3, h4, h5, h6, h7, fun i hi => hE _ _ _ _ ?_ ?_ (h8 i hi)⟩
  · have := h3 k hk'
    have := hm xs.length (Nat.le_refl _)
    exact hk k (by omega) (by omega)
  · have := hm i (by omega)
    omega
  · have := hm (i + 1) (by omega)
    omega
theorem OwD.wide {lo' hi' : Nat} (h : OwD T sz E lo hi w v xs) (h1 : lo' ≤ lo) (h2 : hi ≤ hi') : OwD T sz E lo' hi' w v xs := by
  obtain ⟨a, c, L, b, e1, e2, e3, e4, e5, e6, e7, e8⟩ := h
  exact ⟨a, c, L, b, e1, e2, fun k hk => by have := e3 k hk; omega, by omega, e5, by omega, e7, e8⟩
theorem OwD.rd {E' : World → List Value → α → Prop} (h : OwD T sz E lo hi w v xs) (hE : ∀ l u cs x, E l u w cs x → E' w cs x) : DeR sz E' w v xs := by
  obtain ⟨a, c, L, b, h1, h2, h3, h4, h5, h6, h7, h8⟩ := h
  refine ⟨a, c, (List.range xs.length).map fun i => el sz L i, h1, ?_, by simp, h7, fun i hi => ?_⟩
  · rw [chunks_flat, List.take_of_length_le (by rw [h2.len]; exact Nat.le_refl _)]
    exact h2.rd
  · have e : ((List.range xs.length).map fun i => el sz L i).getD i [] = el sz L i := by
      rw [List.getD_eq_getElem?_getD, List.getElem?_map, List.getElem?_range hi]
      rfl
    rw [e]
    exact ⟨el_len h2.len hi, hE _ _ _ _ (h8 i hi)⟩
theorem OwD.nil (h : lo ≤ hi) : OwD T sz E lo hi w (.slice none 0 0) ([] : List α) :=
  ⟨none, 0, [], fun _ => hi, rfl, Row.nil, (fun k hk => by cases hk), h, (fun i hi => absurd hi (Nat.not_lt_zero i)), Nat.le_refl _, Nat.zero_le _, fun i hi => absurd hi (Nat.not_lt_zero i)⟩
end
/-- The cells of a list that can be read. -/
theorem DeR.cells {α : Type} [Inhabited α] {sz : Nat} {E : World → List Value → α → Prop} {w : World} {v : Value} {xs : List α} (h : DeR sz E w v xs) (h1 : ∀ cs x, E w cs x → ∀ u ∈ cs, u.oneCell' = true) :
    ∃ a c us, v = .slice a xs.length c ∧ Rd w a us ∧ us.length = xs.length * sz ∧ (∀ u ∈ us, u.oneCell' = true) ∧ xs.length ≤ BIG ∧ ∀ i, i < xs.length → E w (el sz us i) (xs.getD i default) := by
  obtain ⟨a, c, cs, e1, e2, e3, e4, e5⟩ := h
  refine ⟨a, c, cs.flatten, e1, e2, ?_, fun u hu => ?_, e4, fun i hi => ?_⟩
  · rw [flat_lens cs (fun i hi => (e5 i (by omega)).1), e3]
  · obtain ⟨l, hl, hu'⟩ := List.mem_flatten.1 hu
    obtain ⟨i, hi, rfl⟩ := List.getElem_of_mem hl
    have := (e5 i (by omega)).2
    rw [List.getD_eq_getElem?_getD, List.getElem?_eq_getElem hi] at this
    exact h1 _ _ this u hu'
  · rw [el_flat cs (fun i hi => (e5 i (by omega)).1) i (by omega)]
    exact (e5 i hi).2
theorem OwD.flat {α : Type} [Inhabited α] {T : TypeId} {sz : Nat} {E : World → List Value → α → Prop} (hE : ∀ w w' cs x, E w cs x → E w' cs x) {w w' : World} {a : Option Addr} {c lo hi : Nat} {us : List Value} {xs : List α} (hR : Row w' T sz a xs.length c us) (hb : ∀ k, blk a = some k → lo ≤ k ∧ k < hi) (hlo : lo ≤ hi) (hl : xs.length ≤ BIG) (he : ∀ i, i < xs.length → E w (el sz us i) (xs.getD i default)) :
    OwD T sz (fun _ _ => E) lo hi w' (.slice a xs.length c) xs :=
  ⟨a, c, us, fun _ => hi, rfl, hR, hb, hlo, fun _ _ => Nat.le_refl _, Nat.le_refl _, hl, fun i hi => hE _ _ _ _ (he i hi)⟩
theorem iE.one (w : World) (cs : List Value) (x : Int) (h : iE w cs x) : ∀ u ∈ cs, u.oneCell' = true := by
  rw [show cs = _ from h]; simp [Value.oneCell']
theorem wE.one (w : World) (cs : List Value) (x : Int × Int) (h : wE w cs x) : ∀ u ∈ cs, u.oneCell' = true := by
  rw [show cs = _ from h]; simp [Value.oneCell']
theorem eE.one (w : World) (cs : List Value) (x : Int × Int × Int) (h : eE w cs x) : ∀ u ∈ cs, u.oneCell' = true := by
  rw [show cs = _ from h]; simp [Value.oneCell']
theorem DeR.one {α : Type} [Inhabited α] {sz : Nat} {E : World → List Value → α → Prop} {w : World} {v : Value} {xs : List α} (h : DeR sz E w v xs) : v.oneCell' = true := by
  obtain ⟨a, c, cs, rfl, -⟩ := h
  rfl
theorem qE.one (w : World) (cs : List Value) (x : List Int) (h : qE w cs x) : ∀ u ∈ cs, u.oneCell' = true := by
  obtain ⟨v, rfl, h⟩ := h
  have k1 := h.one
  intro u hu
  simp only [List.mem_cons, List.not_mem_nil, or_false] at hu
  subst hu
  exact k1
theorem lE.one (w : World) (cs : List Value) (x : LnX) (h : lE w cs x) : ∀ u ∈ cs, u.oneCell' = true := by
  obtain ⟨v1, v2, rfl, h1, h2⟩ := h
  have k1 := h1.one
  have k2 := h2.one
  intro u hu
  simp only [List.mem_cons, List.not_mem_nil, or_false] at hu
  rcases hu with rfl | rfl | rfl | rfl <;> first | assumption | rfl
theorem pE.one (w : World) (cs : List Value) (x : PtX) (h : pE w cs x) : ∀ u ∈ cs, u.oneCell' = true := by
  obtain ⟨v1, v2, v3, rfl, h1, h2, h3⟩ := h
  have k1 := h1.one
  have k2 := h2.one
  have k3 := h3.one
  intro u hu
  simp only [List.mem_cons, List.not_mem_nil, or_false] at hu
  rcases hu with rfl | rfl | rfl | rfl | rfl | rfl <;> first | assumption | rfl
theorem rE.one (w : World) (cs : List Value) (x : PrX) (h : rE w cs x) : ∀ u ∈ cs, u.oneCell' = true := by
  obtain ⟨v, rfl, h⟩ := h
  have k1 := h.one
  intro u hu
  simp only [List.mem_cons, List.not_mem_nil, or_false] at hu
  rcases hu with rfl | rfl | rfl | rfl | rfl | rfl | rfl | rfl | rfl | rfl | rfl | rfl | rfl | rfl | rfl <;> first | assumption | rfl
/-- Own lists of ints, lanes, partitions, processes: from lo on, below hi. -/
def qO (lo hi : Nat) (w : World) (cs : List Value) (x : List Int) : Prop := ∃ v, cs = [v] ∧ OwD 3 1 (fun _ _ => iE) lo hi w v x
def lO (lo hi : Nat) (w : World) (cs : List Value) (x : LnX) : Prop := ∃ v1 v2 m, cs = [v1, v2, .int .i64 x.tk, .int .i64 x.dr] ∧ lo ≤ m ∧ m ≤ hi ∧ OwD 2 1 (fun _ _ => iE) lo m w v1 x.vs ∧ OwD 55 2 (fun _ _ => wE) m hi w v2 x.ws
def pO (lo hi : Nat) (w : World) (cs : List Value) (x : PtX) : Prop := ∃ v1 v4 v5 m1 m2, cs = [.int .i64 x.cu, v1, .int .i64 x.lo, .int .i64 x.fo, v4, v5] ∧ lo ≤ m1 ∧ m1 ≤ m2 ∧ m2 ≤ hi ∧ OwD 45 3 (fun _ _ => eE) lo m1 w v1 x.lg ∧ OwD 3 1 (fun _ _ => iE) m1 m2 w v4 x.os ∧ OwD 23 1 qO m2 hi w v5 x.qs
def rO (lo hi : Nat) (w : World) (cs : List Value) (x : PrX) : Prop := ∃ v, cs = [.int .i64 x.st, .int .i64 x.pc, .int .i64 x.r.r0, .int .i64 x.r.r1, .int .i64 x.r.r2, .int .i64 x.r.r3, .int .i64 x.r.r4, .int .i64 x.r.r5, .int .i64 x.r.r6, .int .i64 x.r.r7, .int .i64 x.cu, .int .i64 x.ti, .bool x.fi, .int .i64 x.wk, v] ∧ OwD 53 4 lO lo hi w v x.ls
section
variable {lo hi : Nat} {w w' : World} {cs : List Value} (hk : ∀ k, lo ≤ k → k < hi → w'.heap[k]? = w.heap[k]?)
include hk
theorem qO.kept {x : List Int} (h : qO lo hi w cs x) : qO lo hi w' cs x := by
  obtain ⟨v, e, h⟩ := h
  exact ⟨v, e, h.kept hk fun _ _ _ _ _ _ h => h⟩
theorem lO.kept {x : LnX} (h : lO lo hi w cs x) : lO lo hi w' cs x := by
  obtain ⟨v1, v2, m, e, hm1, hm2, h1, h2⟩ := h
  exact ⟨v1, v2, m, e, hm1, hm2, h1.kept (fun k k1 k2 => hk k k1 (by omega)) fun _ _ _ _ _ _ h => h, h2.kept (fun k k1 k2 => hk k (by omega) k2) fun _ _ _ _ _ _ h => h⟩
theorem pO.kept {x : PtX} (h : pO lo hi w cs x) : pO lo hi w' cs x := by
  obtain ⟨v1, v4, v5, m1, m2, e, hm1, hm2, hm3, h1, h2, h3⟩ := h
  exact ⟨v1, v4, v5, m1, m2, e, hm1, hm2, hm3, h1.kept (fun k k1 k2 => hk k k1 (by omega)) fun _ _ _ _ _ _ h => h, h2.kept (fun k k1 k2 => hk k (by omega) (by omega)) fun _ _ _ _ _ _ h => h, h3.kept (fun k k1 k2 => hk k (by omega) k2) fun _ _ _ _ l1 l2 h => h.kept fun k k1 k2 => hk k (by omega) (by omega)⟩
theorem rO.kept {x : PrX} (h : rO lo hi w cs x) : rO lo hi w' cs x := by
  obtain ⟨v, e, h⟩ := h
  exact ⟨v, e, h.kept hk fun _ _ _ _ l1 l2 h => h.kept fun k k1 k2 => hk k (by omega) (by omega)⟩
end
section
variable {lo hi : Nat} {w : World} {cs : List Value}
theorem qO.rd {x : List Int} (h : qO lo hi w cs x) : qE w cs x := by
  obtain ⟨v, e, h⟩ := h
  exact ⟨v, e, h.rd fun _ _ _ _ h => h⟩
theorem lO.rd {x : LnX} (h : lO lo hi w cs x) : lE w cs x := by
  obtain ⟨v1, v2, m, e, -, -, h1, h2⟩ := h
  exact ⟨v1, v2, e, h1.rd fun _ _ _ _ h => h, h2.rd fun _ _ _ _ h => h⟩
theorem pO.rd {x : PtX} (h : pO lo hi w cs x) : pE w cs x := by
  obtain ⟨v1, v4, v5, m1, m2, e, -, -, -, h1, h2, h3⟩ := h
  exact ⟨v1, v4, v5, e, h1.rd fun _ _ _ _ h => h, h2.rd fun _ _ _ _ h => h, h3.rd fun _ _ _ _ h => h.rd⟩
theorem rO.rd {x : PrX} (h : rO lo hi w cs x) : rE w cs x := by
  obtain ⟨v, e, h⟩ := h
  exact ⟨v, e, h.rd fun _ _ _ _ h => h.rd⟩
end
theorem row_put {w : World} {e : TypeId} {size n cap : Nat} {a : Option Addr} {xs : List Value} (h : Row w e size a n cap xs) (j : Nat) (hj : j < n * size) (v : Value) :
    ∃ g, a = some ⟨g, 0, none⟩ ∧ Row (w.setCell ⟨g, j, none⟩ v) e size a n cap (xs.set j v) ∧ (∃ u, w.cell? ⟨g, j, none⟩ = some u) ∧ w.frozen? ⟨g, j, none⟩ = false := by
  obtain ⟨h1, h2, h3, ⟨h4, h5⟩ | ⟨g, cur, h4, hg, hs, ht⟩⟩ := h
  · exfalso
    have : n = 0 := by omega
    rw [this, Nat.zero_mul] at hj
    omega
  · have hjc : j < cur.size := by
      have : n * size ≤ cap * size := Nat.mul_le_mul_right _ h2
      omega
    refine ⟨g, h4, ⟨by rw [List.length_set]; exact h1, h2, h3, .inr ⟨g, cur.setIfInBounds j v, h4, heap_setCell_same w g j _ _ v hg, by simpa using hs, ?_⟩⟩, ⟨cur[j], ?_⟩, by simp [World.frozen?, hg]⟩
    · rw [Array.toList_setIfInBounds, List.take_set, ht]
    · rw [cell_of_row _ _ _ _ _ _ hg, Array.getElem?_eq_getElem hjc]
theorem setCell_other (w : World) (g j : Nat) (v : Value) (k : Nat) (h : k ≠ g) : (w.setCell ⟨g, j, none⟩ v).heap[k]? = w.heap[k]? := Below.heap_setCell _ _ _ _ h
theorem setCell_size (w : World) (p : Addr) (v : Value) : (w.setCell p v).heap.size = w.heap.size := by simp [World.setCell]
theorem box_put {V : World} {B : Nat} {x : Array Value} {T : TypeId} (h : V.heap[B]? = some (.cells x T (0, 0))) (j : Nat) (v : Value) : (V.setCell ⟨B, j, none⟩ v).heap[B]? = some (.cells (x.setIfInBounds j v) T (0, 0)) := heap_setCell_same V B j _ _ v h
theorem box_free {V : World} {B : Nat} {x : Array Value} {T : TypeId} (h : V.heap[B]? = some (.cells x T (0, 0))) (j : Nat) : V.frozen? ⟨B, j, none⟩ = false := by simp [World.frozen?, h]
theorem below_set {w w' : World} {B : Nat} (h : Below B w w') {g j : Nat} {v : Value} (hg : B ≤ g) : Below B w (w'.setCell ⟨g, j, none⟩ v) :=
  h.trans ⟨rfl, rfl, rfl, by simp [World.setCell], fun k hk => setCell_other _ _ _ _ _ (by omega)⟩
theorem set3 {w : World} {B : Nat} {T : TypeId} {y0 y1 y2 : Value} (h : w.heap[B]? = some (.cells #[y0, y1, y2] T (0, 0))) (v0 v1 v2 : Value) : (((w.setCell ⟨B, 0, none⟩ v0).setCell ⟨B, 1, none⟩ v1).setCell ⟨B, 2, none⟩ v2).heap[B]? = some (.cells #[v0, v1, v2] T (0, 0)) ∧ (((w.setCell ⟨B, 0, none⟩ v0).setCell ⟨B, 1, none⟩ v1).setCell ⟨B, 2, none⟩ v2).heap.size = w.heap.size ∧ ∀ k, k ≠ B → (((w.setCell ⟨B, 0, none⟩ v0).setCell ⟨B, 1, none⟩ v1).setCell ⟨B, 2, none⟩ v2).heap[k]? = w.heap[k]? := by
  have e0 : (#[y0, y1, y2] : Array Value).setIfInBounds 0 v0 = #[v0, y1, y2] := by simp
  have h0 := box_put h 0 v0
  rw [e0] at h0
  have e1 : (#[v0, y1, y2] : Array Value).setIfInBounds 1 v1 = #[v0, v1, y2] := by simp
  have h1 := box_put h0 1 v1
  rw [e1] at h1
  have e2 : (#[v0, v1, y2] : Array Value).setIfInBounds 2 v2 = #[v0, v1, v2] := by simp
  have h2 := box_put h1 2 v2
  rw [e2] at h2
  exact ⟨h2, by simp only [setCell_size], fun k hk => by simp only [setCell_other _ _ _ _ _ hk]⟩
theorem set3_below {w w' : World} {A B : Nat} (h : Below A w w') (hB : A ≤ B) (v0 v1 v2 : Value) : Below A w (((w'.setCell ⟨B, 0, none⟩ v0).setCell ⟨B, 1, none⟩ v1).setCell ⟨B, 2, none⟩ v2) := (below_set (below_set (below_set h hB) hB) hB)
theorem set6 {w : World} {B : Nat} {T : TypeId} {y0 y1 y2 y3 y4 y5 : Value} (h : w.heap[B]? = some (.cells #[y0, y1, y2, y3, y4, y5] T (0, 0))) (v0 v1 v2 v3 v4 v5 : Value) : ((((((w.setCell ⟨B, 0, none⟩ v0).setCell ⟨B, 1, none⟩ v1).setCell ⟨B, 2, none⟩ v2).setCell ⟨B, 3, none⟩ v3).setCell ⟨B, 4, none⟩ v4).setCell ⟨B, 5, none⟩ v5).heap[B]? = some (.cells #[v0, v1, v2, v3, v4, v5] T (0, 0)) ∧ ((((((w.setCell ⟨B, 0, none⟩ v0).setCell ⟨B, 1, none⟩ v1).setCell ⟨B, 2, none⟩ v2).setCell ⟨B, 3, none⟩ v3).setCell ⟨B, 4, none⟩ v4).setCell ⟨B, 5, none⟩ v5).heap.size = w.heap.size ∧ ∀ k, k ≠ B → ((((((w.setCell ⟨B, 0, none⟩ v0).setCell ⟨B, 1, none⟩ v1).setCell ⟨B, 2, none⟩ v2).setCell ⟨B, 3, none⟩ v3).setCell ⟨B, 4, none⟩ v4).setCell ⟨B, 5, none⟩ v5).heap[k]? = w.heap[k]? := by
  have e0 : (#[y0, y1, y2, y3, y4, y5] : Array Value).setIfInBounds 0 v0 = #[v0, y1, y2, y3, y4, y5] := by simp
  have h0 := box_put h 0 v0
  rw [e0] at h0
  have e1 : (#[v0, y1, y2, y3, y4, y5] : Array Value).setIfInBounds 1 v1 = #[v0, v1, y2, y3, y4, y5] := by simp
  have h1 := box_put h0 1 v1
  rw [e1] at h1
  have e2 : (#[v0, v1, y2, y3, y4, y5] : Array Value).setIfInBounds 2 v2 = #[v0, v1, v2, y3, y4, y5] := by simp
  have h2 := box_put h1 2 v2
  rw [e2] at h2
  have e3 : (#[v0, v1, v2, y3, y4, y5] : Array Value).setIfInBounds 3 v3 = #[v0, v1, v2, v3, y4, y5] := by simp
  have h3 := box_put h2 3 v3
  rw [e3] at h3
  have e4 : (#[v0, v1, v2, v3, y4, y5] : Array Value).setIfInBounds 4 v4 = #[v0, v1, v2, v3, v4, y5] := by simp
  have h4 := box_put h3 4 v4
  rw [e4] at h4
  have e5 : (#[v0, v1, v2, v3, v4, y5] : Array Value).setIfInBounds 5 v5 = #[v0, v1, v2, v3, v4, v5] := by simp
  have h5 := box_put h4 5 v5
  rw [e5] at h5
  exact ⟨h5, by simp only [setCell_size], fun k hk => by simp only [setCell_other _ _ _ _ _ hk]⟩
theorem set6_below {w w' : World} {A B : Nat} (h : Below A w w') (hB : A ≤ B) (v0 v1 v2 v3 v4 v5 : Value) : Below A w ((((((w'.setCell ⟨B, 0, none⟩ v0).setCell ⟨B, 1, none⟩ v1).setCell ⟨B, 2, none⟩ v2).setCell ⟨B, 3, none⟩ v3).setCell ⟨B, 4, none⟩ v4).setCell ⟨B, 5, none⟩ v5) := (below_set (below_set (below_set (below_set (below_set (below_set h hB) hB) hB) hB) hB) hB)
theorem set15 {w : World} {B : Nat} {T : TypeId} {y0 y1 y2 y3 y4 y5 y6 y7 y8 y9 y10 y11 y12 y13 y14 : Value} (h : w.heap[B]? = some (.cells #[y0, y1, y2, y3, y4, y5, y6, y7, y8, y9, y10, y11, y12, y13, y14] T (0, 0))) (v0 v1 v2 v3 v4 v5 v6 v7 v8 v9 v10 v11 v12 v13 v14 : Value) : (((((((((((((((w.setCell ⟨B, 0, none⟩ v0).setCell ⟨B, 1, none⟩ v1).setCell ⟨B, 2, none⟩ v2).setCell ⟨B, 3, none⟩ v3).setCell ⟨B, 4, none⟩ v4).setCell ⟨B, 5, none⟩ v5).setCell ⟨B, 6, none⟩ v6).setCell ⟨B, 7, none⟩ v7).setCell ⟨B, 8, none⟩ v8).setCell ⟨B, 9, none⟩ v9).setCell ⟨B, 10, none⟩ v10).setCell ⟨B, 11, none⟩ v11).setCell ⟨B, 12, none⟩ v12).setCell ⟨B, 13, none⟩ v13).setCell ⟨B, 14, none⟩ v14).heap[B]? = some (.cells #[v0, v1, v2, v3, v4, v5, v6, v7, v8, v9, v10, v11, v12, v13, v14] T (0, 0)) ∧ (((((((((((((((w.setCell ⟨B, 0, none⟩ v0).setCell ⟨B, 1, none⟩ v1).setCell ⟨B, 2, none⟩ v2).setCell ⟨B, 3, none⟩ v3).setCell ⟨B, 4, none⟩ v4).setCell ⟨B, 5, none⟩ v5).setCell ⟨B, 6, none⟩ v6).setCell ⟨B, 7, none⟩ v7).setCell ⟨B, 8, none⟩ v8).setCell ⟨B, 9, none⟩ v9).setCell ⟨B, 10, none⟩ v10).setCell ⟨B, 11, none⟩ v11).setCell ⟨B, 12, none⟩ v12).setCell ⟨B, 13, none⟩ v13).setCell ⟨B, 14, none⟩ v14).heap.size = w.heap.size ∧ ∀ k, k ≠ B → (((((((((((((((w.setCell ⟨B, 0, none⟩ v0).setCell ⟨B, 1, none⟩ v1).setCell ⟨B, 2, none⟩ v2).setCell ⟨B, 3, none⟩ v3).setCell ⟨B, 4, none⟩ v4).setCell ⟨B, 5, none⟩ v5).setCell ⟨B, 6, none⟩ v6).setCell ⟨B, 7, none⟩ v7).setCell ⟨B, 8, none⟩ v8).setCell ⟨B, 9, none⟩ v9).setCell ⟨B, 10, none⟩ v10).setCell ⟨B, 11, none⟩ v11).setCell ⟨B, 12, none⟩ v12).setCell ⟨B, 13, none⟩ v13).setCell ⟨B, 14, none⟩ v14).heap[k]? = w.heap[k]? := by
  have e0 : (#[y0, y1, y2, y3, y4, y5, y6, y7, y8, y9, y10, y11, y12, y13, y14] : Array Value).setIfInBounds 0 v0 = #[v0, y1, y2, y3, y4, y5, y6, y7, y8, y9, y10, y11, y12, y13, y14] := by simp
  have h0 := box_put h 0 v0
  rw [e0] at h0
  have e1 : (#[v0, y1, y2, y3, y4, y5, y6, y7, y8, y9, y10, y11, y12, y13, y14] : Array Value).setIfInBounds 1 v1 = #[v0, v1, y2, y3, y4, y5, y6, y7, y8, y9, y10, y11, y12, y13, y14] := by simp
  have h1 := box_put h0 1 v1
  rw [e1] at h1
  have e2 : (#[v0, v1, y2, y3, y4, y5, y6, y7, y8, y9, y10, y11, y12, y13, y14] : Array Value).setIfInBounds 2 v2 = #[v0, v1, v2, y3, y4, y5, y6, y7, y8, y9, y10, y11, y12, y13, y14] := by simp
  have h2 := box_put h1 2 v2
  rw [e2] at h2
  have e3 : (#[v0, v1, v2, y3, y4, y5, y6, y7, y8, y9, y10, y11, y12, y13, y14] : Array Value).setIfInBounds 3 v3 = #[v0, v1, v2, v3, y4, y5, y6, y7, y8, y9, y10, y11, y12, y13, y14] := by simp
  have h3 := box_put h2 3 v3
  rw [e3] at h3
  have e4 : (#[v0, v1, v2, v3, y4, y5, y6, y7, y8, y9, y10, y11, y12, y13, y14] : Array Value).setIfInBounds 4 v4 = #[v0, v1, v2, v3, v4, y5, y6, y7, y8, y9, y10, y11, y12, y13, y14] := by simp
  have h4 := box_put h3 4 v4
  rw [e4] at h4
  have e5 : (#[v0, v1, v2, v3, v4, y5, y6, y7, y8, y9, y10, y11, y12, y13, y14] : Array Value).setIfInBounds 5 v5 = #[v0, v1, v2, v3, v4, v5, y6, y7, y8, y9, y10, y11, y12, y13, y14] := by simp
  have h5 := box_put h4 5 v5
  rw [e5] at h5
  have e6 : (#[v0, v1, v2, v3, v4, v5, y6, y7, y8, y9, y10, y11, y12, y13, y14] : Array Value).setIfInBounds 6 v6 = #[v0, v1, v2, v3, v4, v5, v6, y7, y8, y9, y10, y11, y12, y13, y14] := by simp
  have h6 := box_put h5 6 v6
  rw [e6] at h6
  have e7 : (#[v0, v1, v2, v3, v4, v5, v6, y7, y8, y9, y10, y11, y12, y13, y14] : Array Value).setIfInBounds 7 v7 = #[v0, v1, v2, v3, v4, v5, v6, v7, y8, y9, y10, y11, y12, y13, y14] := by simp
  have h7 := box_put h6 7 v7
  rw [e7] at h7
  have e8 : (#[v0, v1, v2, v3, v4, v5, v6, v7, y8, y9, y10, y11, y12, y13, y14] : Array Value).setIfInBounds 8 v8 = #[v0, v1, v2, v3, v4, v5, v6, v7, v8, y9, y10, y11, y12, y13, y14] := by simp
  have h8 := box_put h7 8 v8
  rw [e8] at h8
  have e9 : (#[v0, v1, v2, v3, v4, v5, v6, v7, v8, y9, y10, y11, y12, y13, y14] : Array Value).setIfInBounds 9 v9 = #[v0, v1, v2, v3, v4, v5, v6, v7, v8, v9, y10, y11, y12, y13, y14] := by simp
  have h9 := box_put h8 9 v9
  rw [e9] at h9
  have e10 : (#[v0, v1, v2, v3, v4, v5, v6, v7, v8, v9, y10, y11, y12, y13, y14] : Array Value).setIfInBounds 10 v10 = #[v0, v1, v2, v3, v4, v5, v6, v7, v8, v9, v10, y11, y12, y13, y14] := by simp
  have h10 := box_put h9 10 v10
  rw [e10] at h10
  have e11 : (#[v0, v1, v2, v3, v4, v5, v6, v7, v8, v9, v10, y11, y12, y13, y14] : Array Value).setIfInBounds 11 v11 = #[v0, v1, v2, v3, v4, v5, v6, v7, v8, v9, v10, v11, y12, y13, y14] := by simp
  have h11 := box_put h10 11 v11
  rw [e11] at h11
  have e12 : (#[v0, v1, v2, v3, v4, v5, v6, v7, v8, v9, v10, v11, y12, y13, y14] : Array Value).setIfInBounds 12 v12 = #[v0, v1, v2, v3, v4, v5, v6, v7, v8, v9, v10, v11, v12, y13, y14] := by simp
  have h12 := box_put h11 12 v12
  rw [e12] at h12
  have e13 : (#[v0, v1, v2, v3, v4, v5, v6, v7, v8, v9, v10, v11, v12, y13, y14] : Array Value).setIfInBounds 13 v13 = #[v0, v1, v2, v3, v4, v5, v6, v7, v8, v9, v10, v11, v12, v13, y14] := by simp
  have h13 := box_put h12 13 v13
  rw [e13] at h13
  have e14 : (#[v0, v1, v2, v3, v4, v5, v6, v7, v8, v9, v10, v11, v12, v13, y14] : Array Value).setIfInBounds 14 v14 = #[v0, v1, v2, v3, v4, v5, v6, v7, v8, v9, v10, v11, v12, v13, v14] := by simp
  have h14 := box_put h13 14 v14
  rw [e14] at h14
  exact ⟨h14, by simp only [setCell_size], fun k hk => by simp only [setCell_other _ _ _ _ _ hk]⟩
theorem set15_below {w w' : World} {A B : Nat} (h : Below A w w') (hB : A ≤ B) (v0 v1 v2 v3 v4 v5 v6 v7 v8 v9 v10 v11 v12 v13 v14 : Value) : Below A w (((((((((((((((w'.setCell ⟨B, 0, none⟩ v0).setCell ⟨B, 1, none⟩ v1).setCell ⟨B, 2, none⟩ v2).setCell ⟨B, 3, none⟩ v3).setCell ⟨B, 4, none⟩ v4).setCell ⟨B, 5, none⟩ v5).setCell ⟨B, 6, none⟩ v6).setCell ⟨B, 7, none⟩ v7).setCell ⟨B, 8, none⟩ v8).setCell ⟨B, 9, none⟩ v9).setCell ⟨B, 10, none⟩ v10).setCell ⟨B, 11, none⟩ v11).setCell ⟨B, 12, none⟩ v12).setCell ⟨B, 13, none⟩ v13).setCell ⟨B, 14, none⟩ v14) := (below_set (below_set (below_set (below_set (below_set (below_set (below_set (below_set (below_set (below_set (below_set (below_set (below_set (below_set (below_set h hB) hB) hB) hB) hB) hB) hB) hB) hB) hB) hB) hB) hB) hB) hB)
end Go.Proofs.Ytjbmljheepomnaa
