/- Lists of one's own that are written over and grown. -/
import Derived.Test.YtmjokinagbpihaaDoorKF3
namespace Go.Proofs.YtmjokinagbpihaaDoor
open Go.RowKit

/-- While a config's lists are written over: its own cells at G, the answer's behind them; but for the blocks of S all is as it was. -/
structure Wk (W : World) (S : Nat → Prop) (G : Nat) (wr : World) (xs : Array Value) (ds : List RowD) : Prop where
  bx : wr.heap[G]? = some (.cells xs 27 (0, 0))
  b0 : wr.heap[G + 1]? = some (.cells #[.slice none 0 0, .slice none 0 0, .int .i64 0, .int .i64 0, .int .i64 0, .int .i64 0, .slice none 0 0] 27 (0, 0))
  own : Owned 0 wr ds
  frm : ∀ d ∈ ds, ∀ k, blk d.a = some k → S k ∨ G + 2 ≤ k
  mod : Mod S W wr
  at_ : W.heap.size = G
  sz : G + 2 ≤ wr.heap.size
  low : ∀ k, S k → k < G
section
variable {W wr w' : World} {S : Nat → Prop} {G : Nat} {xs : Array Value} {ds : List RowD}
theorem Wk.after (h : Wk W S G wr xs ds) (hb : Below wr.heap.size wr w') : Wk W S G w' xs ds :=
  ⟨(hb.block G (by have := h.sz; omega)).trans h.bx, (hb.block (G + 1) (by have := h.sz; omega)).trans h.b0, h.own.below hb, h.frm, h.mod.after hb, h.at_, Nat.le_trans h.sz hb.size, h.low⟩
theorem Wk.plus (h : Wk W S G wr xs ds) (hb : Below wr.heap.size wr w') {d : RowD} (hd : d.ok w') (hn : ∀ k, blk d.a = some k → wr.heap.size ≤ k) : Wk W S G w' xs (d :: ds) :=
  ⟨(h.after hb).bx, (h.after hb).b0, h.own.plus (Nat.zero_le _) hb hd hn, fun d' hd' k hk => by
    rcases List.mem_cons.1 hd' with rfl | h'
    · exact .inr (Nat.le_trans h.sz (hn k hk))
    · exact h.frm d' h' k hk, (h.after hb).mod, h.at_, (h.after hb).sz, h.low⟩
theorem Wk.put (h : Wk W S G wr xs ds) (i : Nat) (v : Value) : Wk W S G (wr.setCell ⟨G, i, none⟩ v) (xs.setIfInBounds i v) ds := by
  have hm : Mod (fun k => k = G) wr (wr.setCell ⟨G, i, none⟩ v) := (Mod.refl (fun k => k = G) wr).setCell (.inl rfl) v
  have h1 := h.sz
  have h3 := h.at_
  refine ⟨heap_setCell_same wr G i _ _ v h.bx, ?_, h.own.mod hm (fun d hd k hk e => ?_), h.frm, h.mod.setCell (.inr (by simp only; omega)) v, h.at_, ?_, h.low⟩
  · rw [hm.block (G + 1) (by omega) (by omega)]
    exact h.b0
  · rcases h.frm d hd k hk with h4 | h4
    · have := h.low k h4
      omega
    · omega
  · have : (wr.setCell ⟨G, i, none⟩ v).heap.size = wr.heap.size := by simp [World.setCell]
    omega
theorem Wk.perm (h : Wk W S G wr xs ds) {ds' : List RowD} (hp : ds.Perm ds') : Wk W S G wr xs ds' := ⟨h.bx, h.b0, h.own.perm hp, fun d hd => h.frm d (hp.mem_iff.2 hd), h.mod, h.at_, h.sz, h.low⟩
theorem Wk.turn {d d' : RowD} (h : Wk W S G wr xs (d :: ds)) (hm : Mod (fun k => blk d.a = some k) wr w') (hd : d'.ok w') (hn : ∀ k, blk d'.a = some k → blk d.a = some k ∨ wr.heap.size ≤ k) : Wk W S G w' xs (d' :: ds) := by
  have hf : ∀ k, blk d.a = some k → S k ∨ G + 2 ≤ k := h.frm d List.mem_cons_self
  have h1 := h.sz
  have h3 := h.at_
  have hne : ∀ k, blk d.a = some k → k ≠ G ∧ k ≠ G + 1 := fun k hk => by
    rcases hf k hk with h4 | h4
    · have := h.low k h4
      omega
    · omega
  refine ⟨?_, ?_, h.own.turn (Nat.zero_le _) hm hd hn, fun x hx k hk => ?_, h.mod.trans hm (fun k hk => ?_), h.at_, Nat.le_trans h.sz hm.size, h.low⟩
  · rw [hm.block G (by omega) (fun e => (hne G e).1 rfl)]
    exact h.bx
  · rw [hm.block (G + 1) (by omega) (fun e => (hne (G + 1) e).2 rfl)]
    exact h.b0
  · rcases List.mem_cons.1 hx with rfl | h'
    · rcases hn k hk with h4 | h4
      · exact hf k h4
      · exact .inr (by omega)
    · exact h.frm x (List.mem_cons_of_mem _ h') k hk
  · rcases hf k hk with h4 | h4
    · exact .inl h4
    · exact .inr (by omega)
theorem Wk.cell (h : Wk W S G wr xs ds) (i : Nat) : wr.cell? ⟨G, i, none⟩ = xs[i]? := cell_of_row _ _ _ _ _ _ h.bx
theorem Wk.free (h : Wk W S G wr xs ds) (i : Nat) : wr.frozen? ⟨G, i, none⟩ = false := by simp [World.frozen?, h.bx]
end

/-- One cell of a row is written. -/
theorem row_set {w : World} {e : TypeId} {size g n cap : Nat} {xs : List Value} (h : Row w e size (some ⟨g, 0, none⟩) n cap xs) (j : Nat) (hj : j < n * size) (v : Value) :
    Row (w.setCell ⟨g, j, none⟩ v) e size (some ⟨g, 0, none⟩) n cap (xs.set j v) ∧ Mod (fun k => blk (some (⟨g, 0, none⟩ : Addr)) = some k) w (w.setCell ⟨g, j, none⟩ v) ∧ (w.cell? ⟨g, j, none⟩).isSome = true ∧ w.frozen? ⟨g, j, none⟩ = false := by
  obtain ⟨h1, h2, h3, ⟨h4, -⟩ | ⟨g', cur, h4, hg, hs, ht⟩⟩ := h
  · cases h4
  · cases h4
    have hjc : j < cur.size := by
      have : n * size ≤ cap * size := Nat.mul_le_mul_right _ h2
      omega
    refine ⟨⟨by rw [List.length_set]; exact h1, h2, h3, .inr ⟨g, cur.setIfInBounds j v, rfl, heap_setCell_same w g j _ _ v hg, by simpa using hs, ?_⟩⟩, (Mod.refl (fun k => blk (some (⟨g, 0, none⟩ : Addr)) = some k) w).setCell (.inl (show blk (some (⟨g, 0, none⟩ : Addr)) = some g from rfl)) v, ?_, by simp [World.frozen?, hg]⟩
    · rw [Array.toList_setIfInBounds, List.take_set, ht]
    · rw [cell_of_row _ _ _ _ _ _ hg, Array.getElem?_eq_getElem hjc]
      rfl
theorem row_cell {w : World} {e : TypeId} {size g n cap : Nat} {xs : List Value} (h : Row w e size (some ⟨g, 0, none⟩) n cap xs) (j : Nat) (v : Value) (hv : xs[j]? = some v) : w.cell? ⟨g, j, none⟩ = some v := by
  obtain ⟨b, o, e, hc⟩ := h.rd j v hv
  cases e
  rw [Nat.zero_add] at hc
  exact hc
theorem row_free {w : World} {e : TypeId} {size g n cap : Nat} {xs : List Value} (h : Row w e size (some ⟨g, 0, none⟩) n cap xs) (j : Nat) : w.frozen? ⟨g, j, none⟩ = false := h.free j g rfl

/-- A list whose first elements are x. -/
def filled {α : Type} (x : α) (l : List α) (i : Nat) : List α := List.replicate i x ++ l.drop i
theorem filled_len {α : Type} (x : α) (l : List α) (i : Nat) (h : i ≤ l.length) : (filled x l i).length = l.length := by simp [filled]; omega
theorem filled_zero {α : Type} (x : α) (l : List α) : filled x l 0 = l := by simp [filled]
theorem filled_all {α : Type} (x : α) (l : List α) : filled x l l.length = List.replicate l.length x := by simp [filled]
theorem filled_set {α : Type} (x : α) (l : List α) (i : Nat) (h : i < l.length) : (filled x l i).set i x = filled x l (i + 1) := by
  unfold filled
  rw [List.set_append_right _ _ (by simp), List.length_replicate, Nat.sub_self, List.drop_eq_getElem_cons h, List.set_cons_zero, List.replicate_succ', List.append_assoc]
  rfl
theorem replicate_snoc {α : Type} (n : Nat) (x : α) : List.replicate n x ++ [x] = List.replicate (n + 1) x := (List.replicate_succ').symm

theorem set_perm {α : Type} : ∀ (l : List α) (i : Nat) (_ : i < l.length) (x : α), (l.set i x).Perm (x :: l.eraseIdx i)
  | a :: l, 0, _, x => by simp
  | a :: l, i + 1, h, x => by
    simp only [List.set_cons_succ, List.eraseIdx_cons_succ]
    exact (List.Perm.cons a (set_perm l i (by simpa using h) x)).trans (List.Perm.swap _ _ _)
theorem get_perm {α : Type} (l : List α) (i : Nat) (h : i < l.length) (d : α) : l.Perm (l.getD i d :: l.eraseIdx i) := by
  have h1 := set_perm l i h (l.getD i d)
  have h2 : l.set i (l.getD i d) = l := by
    rw [List.getD_eq_getElem?_getD, List.getElem?_eq_getElem h]
    simp
  rwa [h2] at h1
/-- Five cells written, one behind the other. -/
theorem pCells_set (l : List Ins) (k : Nat) (hk : k < l.length) (x : Ins) :
    pCells (l.set k x) = (((((pCells l).set (k * 5) (.int .i64 x.op)).set (k * 5 + 1) (.int .i64 x.a)).set (k * 5 + 2) (.int .i64 x.b)).set (k * 5 + 3) (.int .i64 x.c)).set (k * 5 + 4) (.int .i64 x.imm) := by
  induction l generalizing k with
  | nil => simp at hk
  | cons y t ih =>
    cases k with
    | zero => simp [pCells, insCells]
    | succ k =>
      have := ih k (by simpa using hk)
      simp only [pCells] at this
      have e : ∀ (r : Nat) (ys : List Value) (v : Value), (insCells y ++ ys).set ((k + 1) * 5 + r) v = insCells y ++ ys.set (k * 5 + r) v := fun r ys v => by
        rw [List.set_append_right _ _ (by simp [insCells]; omega)]
        congr 2
        simp [insCells]
        omega
      simp only [pCells, List.set_cons_succ, List.flatMap_cons]
      rw [this, show (k + 1) * 5 = (k + 1) * 5 + 0 by omega, e 0, e 1, e 2, e 3, e 4]
      simp
end Go.Proofs.YtmjokinagbpihaaDoor

/- The law's wreck. -/
namespace Go.Proofs.YtmjokinagbpihaaDoor
open Go.RowKit

theorem labC_set (l : List Nat) (i x : Nat) : (labC l).set i (.int .u64 (x : Int)) = labC (l.set i x) := by simp [labC, List.map_set]
theorem iC_set (l : List Int) (i : Nat) (x : Int) : (iC l).set i (.int .i64 x) = iC (l.set i x) := by simp [iC, List.map_set]
theorem psC_one (ms : List PrM) : ∀ u ∈ psC ms, u.oneCell' = true := by
  intro u hu
  obtain ⟨x, _, hx⟩ := List.mem_flatMap.1 hu
  exact prC_one x u hx
/-- One program has been changed. -/
theorem Wk.code {W wr w' : World} {S : Nat → Prop} {G : Nat} {xs : Array Value} {A : List RowD} {ms : List PrM} {i : Nat} {m' : PrM} (h : Wk W S G wr xs (A ++ ms.map prD)) (hi : i < ms.length) (hm : Mod (fun k => blk (ms.getD i default).a = some k) wr w') (hd : (prD m').ok w') (hn : ∀ k, blk m'.a = some k → blk (ms.getD i default).a = some k ∨ wr.heap.size ≤ k) : Wk W S G w' xs (A ++ (ms.set i m').map prD) := by
  have hl : i < (ms.map prD).length := by simpa using hi
  have e1 : (ms.map prD).getD i (prD default) = prD (ms.getD i default) := by
    simp [List.getD_eq_getElem?_getD, List.getElem?_map, List.getElem?_eq_getElem hi]
  have p1 := get_perm (ms.map prD) i hl (prD default)
  rw [e1] at p1
  have p2 := set_perm (ms.map prD) i hl (prD m')
  have h1 := h.perm ((List.Perm.append_left A p1).trans List.perm_middle)
  have h2 := h1.turn (d' := prD m') hm hd hn
  have h3 := h2.perm (List.perm_middle.symm.trans (List.Perm.append_left A p2.symm))
  rw [List.map_set]
  exact h3
theorem Wk.codeRow {W wr : World} {S : Nat → Prop} {G : Nat} {xs : Array Value} {A : List RowD} {ms : List PrM} {i : Nat} (h : Wk W S G wr xs (A ++ ms.map prD)) (hi : i < ms.length) : (prD (ms.getD i default)).ok wr :=
  h.own.ok _ (List.mem_append_right _ (List.mem_map_of_mem (getD_mem hi default)))


theorem getD_set_ne' {α : Type} (l : List α) (i j : Nat) (x d : α) (h : i ≠ j) : (l.set j x).getD i d = l.getD i d := by
  rw [List.getD_eq_getElem?_getD, List.getD_eq_getElem?_getD, List.getElem?_set_ne (fun e => h e.symm)]
theorem getD_set_eq' {α : Type} (l : List α) (j : Nat) (x d : α) (h : j < l.length) : (l.set j x).getD j d = x := by
  rw [List.getD_eq_getElem?_getD, List.getElem?_set_self h]
  rfl

/-- Five cells written. -/
def put5 (w : World) (g j : Nat) (x : Ins) : World := ((((w.setCell ⟨g, j, none⟩ (.int .i64 x.op)).setCell ⟨g, j + 1, none⟩ (.int .i64 x.a)).setCell ⟨g, j + 2, none⟩ (.int .i64 x.b)).setCell ⟨g, j + 3, none⟩ (.int .i64 x.c)).setCell ⟨g, j + 4, none⟩ (.int .i64 x.imm)
theorem row_set5 {w : World} {g n cap : Nat} {l : List Ins} (h : Row w 71 5 (some ⟨g, 0, none⟩) n cap (pCells l)) (hl : l.length = n) (k : Nat) (hk : k < n) (x : Ins) :
    Row (put5 w g (k * 5) x) 71 5 (some ⟨g, 0, none⟩) n cap (pCells (l.set k x)) ∧ Mod (fun k => blk (some (⟨g, 0, none⟩ : Addr)) = some k) w (put5 w g (k * 5) x) ∧ (∀ r, r < 5 → ∃ v, w.cell? ⟨g, k * 5 + r, none⟩ = some v) ∧ ∀ j, w.frozen? ⟨g, j, none⟩ = false := by
  have r0 := row_set h (k * 5) (by omega) (.int .i64 x.op)
  have r1 := row_set r0.1 (k * 5 + 1) (by omega) (.int .i64 x.a)
  have r2 := row_set r1.1 (k * 5 + 2) (by omega) (.int .i64 x.b)
  have r3 := row_set r2.1 (k * 5 + 3) (by omega) (.int .i64 x.c)
  have r4 := row_set r3.1 (k * 5 + 4) (by omega) (.int .i64 x.imm)
  refine ⟨?_, (((r0.2.1.trans r1.2.1 (fun _ h => .inl h)).trans r2.2.1 (fun _ h => .inl h)).trans r3.2.1 (fun _ h => .inl h)).trans r4.2.1 (fun _ h => .inl h), fun r hr => Option.isSome_iff_exists.1 (row_set h (k * 5 + r) (by omega) (.int .i64 0)).2.2.1, fun j => row_free h j⟩
  rw [pCells_set l k (by omega) x]
  exact r4.1
/-- So many programs have been written over. -/
def Fl (m : Nat) (ms ms' : List PrM) (i : Nat) : Prop := ms'.length = ms.length ∧ ∀ j, j < ms.length → ms'.getD j default = if j < i then ⟨⟨(ms.getD j default).p.part, List.replicate (ms.getD j default).p.code.length (⟨(m : Int), (j : Int), 0, 0, 0⟩ : Ins)⟩, (ms.getD j default).a, (ms.getD j default).c⟩ else ms.getD j default
theorem Fl.zero (m : Nat) (ms : List PrM) : Fl m ms ms 0 := ⟨rfl, fun j _ => by rw [if_neg (Nat.not_lt_zero j)]⟩
theorem Fl.next {m : Nat} {ms ms' : List PrM} {i : Nat} (h : Fl m ms ms' i) (hi : i < ms.length) : Fl m ms (ms'.set i ⟨⟨(ms.getD i default).p.part, List.replicate (ms.getD i default).p.code.length (⟨(m : Int), (i : Int), 0, 0, 0⟩ : Ins)⟩, (ms.getD i default).a, (ms.getD i default).c⟩) (i + 1) := by
  refine ⟨by rw [List.length_set]; exact h.1, fun j hj => ?_⟩
  by_cases e : j = i
  · subst e
    rw [getD_set_eq' _ _ _ _ (by rw [h.1]; exact hj), if_pos (by omega)]
  · rw [getD_set_ne' _ _ _ _ _ e, h.2 j hj]
    by_cases h1 : j < i
    · rw [if_pos h1, if_pos (by omega)]
    · rw [if_neg h1, if_neg (by omega)]

theorem psC_ext {ms ms' : List PrM} (hl : ms'.length = ms.length) (h : ∀ j, j < ms.length → prC (ms'.getD j default) = prC (ms.getD j default)) : psC ms' = psC ms := by
  unfold psC
  rw [List.flatMap_def, List.flatMap_def]
  congr 1
  apply List.ext_getElem
  · simp [hl]
  · intro j h1 h2
    have hj : j < ms.length := by simpa using h2
    have := h j hj
    rw [List.getD_eq_getElem?_getD, List.getD_eq_getElem?_getD, List.getElem?_eq_getElem hj, List.getElem?_eq_getElem (by rw [hl]; exact hj)] at this
    simpa using this
theorem psC_set (l : List PrM) (i : Nat) (hi : i < l.length) (x : PrM) (hp : x.p.part = (l.getD i default).p.part) : (psC l).set (i * 2 + 1) (.slice x.a x.p.code.length x.c) = psC (l.set i x) := by
  induction l generalizing i with
  | nil => simp at hi
  | cons y t ih =>
    cases i with
    | zero =>
      simp at hp
      simp [psC, prC, hp]
    | succ i =>
      have := ih i (by simpa using hi) (by simpa using hp)
      simp only [psC] at this
      simp only [psC, List.set_cons_succ, List.flatMap_cons]
      rw [← this, List.set_append_right _ _ (by simp [prC]; omega)]
      congr 2
      simp [prC]
      omega
/-- So many programs have been grown. -/
def Gw (m : Nat) (ms ms' : List PrM) (i : Nat) : Prop := ms'.length = ms.length ∧ ∀ j, j < ms.length → (ms'.getD j default).p = ⟨(ms.getD j default).p.part, List.replicate ((ms.getD j default).p.code.length + if j < i then 3 else 0) (⟨(m : Int), (j : Int), 0, 0, 0⟩ : Ins)⟩
theorem Gw.start {m : Nat} {ms ms' : List PrM} (h : Fl m ms ms' ms.length) : Gw m ms ms' 0 := ⟨h.1, fun j hj => by
  rw [h.2 j hj, if_pos hj, if_neg (Nat.not_lt_zero j)]
  rfl⟩
theorem Gw.next {m : Nat} {ms ms' : List PrM} {i : Nat} (h : Gw m ms ms' i) (hi : i < ms.length) {x : PrM} (hx : x.p = ⟨(ms.getD i default).p.part, List.replicate ((ms.getD i default).p.code.length + 3) (⟨(m : Int), (i : Int), 0, 0, 0⟩ : Ins)⟩) : Gw m ms (ms'.set i x) (i + 1) := by
  refine ⟨by rw [List.length_set]; exact h.1, fun j hj => ?_⟩
  by_cases e : j = i
  · subst e
    rw [getD_set_eq' _ _ _ _ (by rw [h.1]; exact hj), if_pos (by omega), hx]
  · rw [getD_set_ne' _ _ _ _ _ e, h.2 j hj]
    by_cases h1 : j < i
    · rw [if_pos h1, if_pos (by omega)]
    · rw [if_neg h1, if_neg (by omega)]
theorem pCells_snoc' (l : List Ins) (x : Ins) : pCells l ++ insCells x = pCells (l ++ [x]) := by simp [pCells]

/-- What wreck leaves: a config with marks alone, in blocks of what was handed in or new ones. -/
structure WrO (W : World) (S : Nat → Prop) (w' : World) (d : Cfg) (h : Loc) : Prop where
  rd : CfR w' d h
  ok : ∀ x ∈ cfD d h, x.ok w'
  frm : ∀ x ∈ cfD d h, ∀ k, blk x.a = some k → S k ∨ W.heap.size ≤ k
  mod : Mod S W w'

set_option maxRecDepth 100000 in
set_option maxHeartbeats 8000000 in
theorem wreck_go (c : Cfg) (la : Option Addr) (lc : Nat) (ta : Option Addr) (tc : Nat) (pa : Option Addr) (pc : Nat) (ms : List PrM) (m B : Nat) (w : World) (hO : CfO B w c (⟨la, lc, ta, tc, pa, pc, ms⟩ : Loc)) (hm : m ≤ 1000) (hF : FewC c) :
    Calls Tryd.prog 22 #[.agg #[.slice la c.labels.length lc, .slice ta c.table.length tc, .int .i64 c.fuel, .int .i64 c.lane, .int .i64 c.locks, .int .i64 c.log, .slice pa c.procs.length pc], .int .i64 (m : Int)] w fun e w' => ∃ d h, e = .returned (cfV d h) ∧ WrO w (fun k => ∃ d ∈ cfD c (⟨la, lc, ta, tc, pa, pc, ms⟩ : Loc), blk d.a = some k) w' d h ∧ Marks d m ∧ d.labels.length = c.labels.length + 3 ∧ d.table.length = c.table.length + 3 ∧ d.procs.length = c.procs.length ∧ (∀ p ∈ d.procs, p.code.length ≤ 1048576 + 3) := by
  obtain ⟨hl0, hl1, hl2, hl3⟩ := hF
  replace hl3 := hd hl3
  obtain ⟨w1, hw1⟩ : ∃ W, Hid ((w.alloc (.cells #[.slice la c.labels.length lc, .slice ta c.table.length tc, .int .i64 c.fuel, .int .i64 c.lane, .int .i64 c.locks, .int .i64 c.log, .slice pa c.procs.length pc] 27)).alloc (.cells #[.slice none 0 0, .slice none 0 0, .int .i64 0, .int .i64 0, .int .i64 0, .int .i64 0, .slice none 0 0] 27) = W) := ⟨_, rfl⟩
  obtain ⟨G, hG⟩ : ∃ G, Hid (w.heap.size = G) := ⟨_, rfl⟩
  obtain ⟨SS, hSS⟩ : ∃ T, T = (fun k => ∃ d ∈ cfD c (⟨la, lc, ta, tc, pa, pc, ms⟩ : Loc), blk d.a = some k) := ⟨_, rfl⟩
  rw [← hSS]
  have hml : Hid (ms.length = c.procs.length) := hd hO.rd.len
  have hps : Hid (psOf ms = c.procs) := hd hO.ps
  have H0 : Hid (Wk w SS G w1 (cfA c (⟨la, lc, ta, tc, pa, pc, ms⟩ : Loc)) (⟨65, 1, la, c.labels.length, lc, labC c.labels⟩ :: ⟨3, 1, ta, c.table.length, tc, iC c.table⟩ :: ⟨42, 2, pa, c.procs.length, pc, psC ms⟩ :: ms.map prD)) := hd (by
    have hb : Below w.heap.size w w1 := by rw [← hw1.out]; exact ((Below.refl _ w).alloc (Nat.le_refl _) _).alloc (by simp) _
    refine ⟨?_, ?_, (hO.own.below hb).mono (Nat.zero_le _), fun d hd k hk => .inl (by rw [hSS]; exact ⟨d, hd, hk⟩), Mod.of_below _ hb, hG.out, by rw [← hw1.out, ← hG.out]; simp, fun k hk => ?_⟩
    · rw [← hw1.out, ← hG.out, (below_al _ _).block _ (by simp)]
      exact heap_alloc_new w _
    · rw [← hw1.out, ← hG.out, show w.heap.size + 1 = (w.alloc (.cells #[.slice la c.labels.length lc, .slice ta c.table.length tc, .int .i64 c.fuel, .int .i64 c.lane, .int .i64 c.locks, .int .i64 c.log, .slice pa c.procs.length pc] 27)).heap.size by simp]
      exact heap_alloc_new _ _
    · rw [hSS] at hk
      obtain ⟨d, hd, hk⟩ := hk
      rw [← hG.out]
      exact hO.own.lt d hd k hk)
  clear hO hSS
  go_enter Tryd.func22, Tryd.ntmps22
  go_upto_region 1 with fail
  rw [hw1.out, hG.out]
  clear hw1
  have x0 := H0.out.cell 0
  simp [cfA] at x0
  go_upto_block 0 with fail
  clear x0
  go_cut [5, 15] (fun v5 v15 wy => Hid (Wk w SS G wy (cfA c (⟨la, lc, ta, tc, pa, pc, ms⟩ : Loc)) (⟨65, 1, la, c.labels.length, lc, labC (List.replicate c.labels.length m)⟩ :: ⟨3, 1, ta, c.table.length, tc, iC c.table⟩ :: ⟨42, 2, pa, c.procs.length, pc, psC ms⟩ :: ms.map prD)))
  case first =>
    go_wp2_with fail
    go_loopg [5, 15, 16, 17, 18, 19, 20, 21, 22, 23, 24] c.labels.length (fun gg v5 v15 v16 v17 v18 v19 v20 v21 v22 v23 v24 wr => ∃ i : Nat, v15 = .int .i64 (i : Int) ∧ i + gg = c.labels.length ∧ Hid (Wk w SS G wr (cfA c (⟨la, lc, ta, tc, pa, pc, ms⟩ : Loc)) (⟨65, 1, la, c.labels.length, lc, labC (filled m c.labels i)⟩ :: ⟨3, 1, ta, c.table.length, tc, iC c.table⟩ :: ⟨42, 2, pa, c.procs.length, pc, psC ms⟩ :: ms.map prD)))
    case atStart => exact ⟨0, by go_num, by omega, by rw [filled_zero]; exact H0⟩
    case round =>
      clear H0
      obtain ⟨i, rfl, hi, HW⟩ := hrel
      by_cases h0 : gk = 0
      · subst h0
        obtain rfl : i = c.labels.length := by omega
        have hge : decide ((c.labels.length : Int) < (c.labels.length : Int)) = false := by simp
        go_wp2_with fail
        go_meet
        rw [← filled_all]
        exact HW
      · have hlt : (i : Int) < (c.labels.length : Int) := by omega
        have hrow := HW.out.own.head
        obtain ⟨bl, e1⟩ := hrow.head (by simp only; omega)
        simp only at e1
        subst e1
        have x0 := HW.out.cell 0
        simp [cfA] at x0
        obtain ⟨r1, r2, r3, r4⟩ := row_set hrow i (by simp only; omega) (.int .u64 (m : Int))
        obtain ⟨vv, hv⟩ := Option.isSome_iff_exists.1 r3
        have HN : Hid (Wk w SS G (wr.setCell ⟨bl, i, none⟩ (.int .u64 (m : Int))) (cfA c (⟨some ⟨bl, 0, none⟩, lc, ta, tc, pa, pc, ms⟩ : Loc)) (⟨65, 1, some ⟨bl, 0, none⟩, c.labels.length, lc, labC (filled m c.labels (i + 1))⟩ :: ⟨3, 1, ta, c.table.length, tc, iC c.table⟩ :: ⟨42, 2, pa, c.procs.length, pc, psC ms⟩ :: ms.map prD)) := hd (HW.out.turn r2 (by
          simp only at r1
          rw [labC_set, filled_set _ _ _ (by omega)] at r1
          exact r1) (fun k hk => .inl hk))
        clear hrow r1 r2 r3 HW
        go_wp2_with fail
        go_roundg (gk - 1)
        case rel => exact ⟨i + 1, by go_num, by omega, HN⟩
        case measure => omega
  case rest =>
  clear H0
  have x1 := hcut.out.cell 1
  simp [cfA] at x1
  go_upto_block 2 with fail
  clear x1
  have H1 : Hid (Wk w SS G wc (cfA c (⟨la, lc, ta, tc, pa, pc, ms⟩ : Loc)) (⟨3, 1, ta, c.table.length, tc, iC c.table⟩ :: ⟨65, 1, la, c.labels.length, lc, labC (List.replicate c.labels.length m)⟩ :: ⟨42, 2, pa, c.procs.length, pc, psC ms⟩ :: ms.map prD)) := hd (hcut.out.perm (List.Perm.swap _ _ _))
  clear hcut
  go_cut [6, 28] (fun v6 v28 wy => Hid (Wk w SS G wy (cfA c (⟨la, lc, ta, tc, pa, pc, ms⟩ : Loc)) (⟨3, 1, ta, c.table.length, tc, iC (List.replicate c.table.length (m : Int))⟩ :: ⟨65, 1, la, c.labels.length, lc, labC (List.replicate c.labels.length m)⟩ :: ⟨42, 2, pa, c.procs.length, pc, psC ms⟩ :: ms.map prD)))
  case first =>
    go_wp2_with fail
    go_loopg [6, 28, 29, 30, 31, 32, 33, 34, 35, 36] c.table.length (fun gg v6 v28 v29 v30 v31 v32 v33 v34 v35 v36 wr => ∃ i : Nat, v28 = .int .i64 (i : Int) ∧ i + gg = c.table.length ∧ Hid (Wk w SS G wr (cfA c (⟨la, lc, ta, tc, pa, pc, ms⟩ : Loc)) (⟨3, 1, ta, c.table.length, tc, iC (filled (m : Int) c.table i)⟩ :: ⟨65, 1, la, c.labels.length, lc, labC (List.replicate c.labels.length m)⟩ :: ⟨42, 2, pa, c.procs.length, pc, psC ms⟩ :: ms.map prD)))
    case atStart => exact ⟨0, by go_num, by omega, by rw [filled_zero]; exact H1⟩
    case round =>
      clear H1
      obtain ⟨i, rfl, hi, HW⟩ := hrel
      by_cases h0 : gk = 0
      · subst h0
        obtain rfl : i = c.table.length := by omega
        have hge : decide ((c.table.length : Int) < (c.table.length : Int)) = false := by simp
        go_wp2_with fail
        go_meet
        rw [← filled_all]
        exact HW
      · have hlt : (i : Int) < (c.table.length : Int) := by omega
        have hrow := HW.out.own.head
        obtain ⟨bt, e1⟩ := hrow.head (by simp only; omega)
        simp only at e1
        subst e1
        have x0 := HW.out.cell 1
        simp [cfA] at x0
        obtain ⟨r1, r2, r3, r4⟩ := row_set hrow i (by simp only; omega) (.int .i64 (m : Int))
        obtain ⟨vv, hv⟩ := Option.isSome_iff_exists.1 r3
        have HN : Hid (Wk w SS G (wr.setCell ⟨bt, i, none⟩ (.int .i64 (m : Int))) (cfA c (⟨la, lc, some ⟨bt, 0, none⟩, tc, pa, pc, ms⟩ : Loc)) (⟨3, 1, some ⟨bt, 0, none⟩, c.table.length, tc, iC (filled (m : Int) c.table (i + 1))⟩ :: ⟨65, 1, la, c.labels.length, lc, labC (List.replicate c.labels.length m)⟩ :: ⟨42, 2, pa, c.procs.length, pc, psC ms⟩ :: ms.map prD)) := hd (HW.out.turn r2 (by
          simp only at r1
          rw [iC_set, filled_set _ _ _ (by omega)] at r1
          exact r1) (fun k hk => .inl hk))
        clear hrow r1 r2 r3 HW
        go_wp2_with fail
        go_roundg (gk - 1)
        case rel => exact ⟨i + 1, by go_num, by omega, HN⟩
        case measure => omega
  case rest =>
  clear H1
  have H2 : Hid (Wk w SS G wc (cfA c (⟨la, lc, ta, tc, pa, pc, ms⟩ : Loc)) (⟨42, 2, pa, c.procs.length, pc, psC ms⟩ :: ⟨3, 1, ta, c.table.length, tc, iC (List.replicate c.table.length (m : Int))⟩ :: ⟨65, 1, la, c.labels.length, lc, labC (List.replicate c.labels.length m)⟩ :: ms.map prD)) := hd (hcut.out.perm (List.perm_middle (l₁ := [_, _])))
  clear hcut
  have x6 := H2.out.cell 6
  simp [cfA] at x6
  obtain ⟨i2, k81, k82, k83, k84⟩ := info_parts info_proc
  have hbe := below_al wc (.cells #[] 42)
  have hre : Row (wc.alloc (.cells #[] 42)) 42 2 (some ⟨wc.heap.size, 0, none⟩) 0 0 [] := row_new (n := 0) (heap_alloc_new wc _) rfl (Nat.zero_le _)
  obtain ⟨a1, c1, w4, hap, hr1, hm1, hn1, -⟩ := run_append_row (P := Tryd.prog) _ 25 42 i2 _ 2 32 Tryd.underlying25 k81 k82 k83 k84 rfl hre (.slice pa c.procs.length pc) c.procs.length (psC ms) ((H2.out.own.head.rd.below hbe).src Tryd.underlying25 (by rw [psC_len, hml.out]) (by omega) (psC_one ms)) (by unfold maxLen; omega) (by omega)
  simp only [Nat.zero_add, List.nil_append] at hap hr1
  have H3 : Hid (Wk w SS G w4 (cfA c (⟨la, lc, ta, tc, pa, pc, ms⟩ : Loc)) (⟨42, 2, a1, c.procs.length, c1, psC ms⟩ :: ⟨42, 2, pa, c.procs.length, pc, psC ms⟩ :: ⟨3, 1, ta, c.table.length, tc, iC (List.replicate c.table.length (m : Int))⟩ :: ⟨65, 1, la, c.labels.length, lc, labC (List.replicate c.labels.length m)⟩ :: ms.map prD)) := hd (H2.out.plus (hbe.trans (hm1.below (B := wc.heap.size) hbe.size (fun k _ hk => by cases hk; exact Nat.le_refl _))) hr1 (fun k hk => by
    rcases hn1 k hk with h | h
    · cases h; exact Nat.le_refl _
    · exact Nat.le_trans hbe.size h))
  have x6' : (wc.alloc (.cells #[] 42)).cell? ⟨G, 6, none⟩ = some (.slice pa c.procs.length pc) := (hbe.cell (p := ⟨G, 6, none⟩) (World.block_lt_of_cell? _ _ x6)).trans x6
  replace hap := hd hap
  clear hre hr1 hm1 hn1 hbe
  go_upto_block 4 with (at_builtin; refine wpList_append_run rfl _ _ _ rfl _ _ _ _ rfl rfl hap.out ?_; clear hap)
  clear x6 x6' H2
  have HC0 : Hid (∃ ms', Fl m ms ms' 0 ∧ Wk w SS G w4 (cfA c (⟨la, lc, ta, tc, pa, pc, ms⟩ : Loc)) ([⟨42, 2, a1, c.procs.length, c1, psC ms⟩, ⟨42, 2, pa, c.procs.length, pc, psC ms⟩, ⟨3, 1, ta, c.table.length, tc, iC (List.replicate c.table.length (m : Int))⟩, ⟨65, 1, la, c.labels.length, lc, labC (List.replicate c.labels.length m)⟩] ++ ms'.map prD)) := hd ⟨ms, Fl.zero m ms, H3.out⟩
  clear H3
  go_cut [8, 9, 43] (fun v8 v9 v43 wy => Hid (∃ ms', Fl m ms ms' c.procs.length ∧ Wk w SS G wy (cfA c (⟨la, lc, ta, tc, pa, pc, ms⟩ : Loc)) ([⟨42, 2, a1, c.procs.length, c1, psC ms⟩, ⟨42, 2, pa, c.procs.length, pc, psC ms⟩, ⟨3, 1, ta, c.table.length, tc, iC (List.replicate c.table.length (m : Int))⟩, ⟨65, 1, la, c.labels.length, lc, labC (List.replicate c.labels.length m)⟩] ++ ms'.map prD)))
  case first =>
    go_wp2_with fail
    go_loopg [8, 9, 43, 44, 45, 46, 47, 48, 49, 50, 51, 52, 53, 54, 55, 56, 57, 58, 59, 60, 61, 62, 63, 64, 65, 66] c.procs.length (fun gg v8 v9 v43 v44 v45 v46 v47 v48 v49 v50 v51 v52 v53 v54 v55 v56 v57 v58 v59 v60 v61 v62 v63 v64 v65 v66 wr => ∃ i : Nat, v43 = .int .i64 (i : Int) ∧ i + gg = c.procs.length ∧ Hid (∃ ms', Fl m ms ms' i ∧ Wk w SS G wr (cfA c (⟨la, lc, ta, tc, pa, pc, ms⟩ : Loc)) ([⟨42, 2, a1, c.procs.length, c1, psC ms⟩, ⟨42, 2, pa, c.procs.length, pc, psC ms⟩, ⟨3, 1, ta, c.table.length, tc, iC (List.replicate c.table.length (m : Int))⟩, ⟨65, 1, la, c.labels.length, lc, labC (List.replicate c.labels.length m)⟩] ++ ms'.map prD)))
    case atStart => exact ⟨0, by go_num, by omega, HC0⟩
    case round =>
      clear HC0
      obtain ⟨i, rfl, hi, HW⟩ := hrel
      by_cases h0 : gk = 0
      · subst h0
        obtain rfl : i = c.procs.length := by omega
        have hge : decide ((c.procs.length : Int) < (c.procs.length : Int)) = false := by simp
        go_wp2_with fail
        go_meet
        exact HW
      · have hlt : (i : Int) < (c.procs.length : Int) := by omega
        obtain ⟨ms', hFl, hW⟩ := HW.out
        clear HW
        have hims : i < ms.length := by rw [hml.out]; omega
        have hP1 := hW.own.ok _ (List.mem_append_left _ List.mem_cons_self)
        obtain ⟨b1, e1⟩ := hP1.head (by simp only; omega)
        simp only at e1
        subst e1
        have y1 := row_cell hP1 (i * 2 + 1) _ (psC_at ms i hims).2
        have hpc : Hid ((psC ms)[i * 2 + 1]? = some (.slice (ms.getD i default).a (ms.getD i default).p.code.length (ms.getD i default).c)) := hd (psC_at ms i hims).2
        have hge2 := hFl.2 i hims
        rw [if_neg (Nat.lt_irrefl i)] at hge2
        have hset : Hid (ms'.set i (ms.getD i default) = ms') := hd (by
          rw [← hge2]
          have h1 : i < ms'.length := by rw [hFl.1]; exact hims
          rw [List.getD_eq_getElem?_getD, List.getElem?_eq_getElem h1]
          simp)
        have HFn := hd (hFl.next hims)
        have hlm : Hid (i < ms'.length) := hd (by rw [hFl.1]; exact hims)
        have hcl : (ms.getD i default).p.code.length ≤ 1048576 := hl3.out _ (by rw [← hps.out]; exact List.mem_map_of_mem (getD_mem hims default))
        replace hW := hd hW
        clear hFl hge2 hP1
        generalize ms.getD i default = mi at *
        obtain ⟨⟨part, code⟩, ma, mc⟩ := mi
        simp only at y1 hset HFn hcl hpc
        obtain ⟨GK, rfl⟩ : ∃ x, x = gk := ⟨_, rfl⟩
        go_upto_block 6 with fail
        clear y1
        go_wp2_with fail
        go_loopg [9, 52, 53, 54, 55, 56, 57, 58, 59, 60, 61, 62, 63, 64, 65] code.length (fun gg v9 v52 v53 v54 v55 v56 v57 v58 v59 v60 v61 v62 v63 v64 v65 wq => ∃ k : Nat, v52 = .int .i64 (k : Int) ∧ k + gg = code.length ∧ Hid (Wk w SS G wq (cfA c (⟨la, lc, ta, tc, pa, pc, ms⟩ : Loc)) ([⟨42, 2, (some ⟨b1, 0, none⟩), c.procs.length, c1, psC ms⟩, ⟨42, 2, pa, c.procs.length, pc, psC ms⟩, ⟨3, 1, ta, c.table.length, tc, iC (List.replicate c.table.length (m : Int))⟩, ⟨65, 1, la, c.labels.length, lc, labC (List.replicate c.labels.length m)⟩] ++ (ms'.set i ⟨⟨part, filled (⟨(m : Int), (i : Int), 0, 0, 0⟩ : Ins) code k⟩, ma, mc⟩).map prD)))
        case atStart => exact ⟨0, by go_num, by omega, hd (by rw [filled_zero, hset.out]; exact hW.out)⟩
        case round =>
          clear hW
          obtain ⟨k, rfl, hk, HK⟩ := hrel
          have hg0 : gk = 0 ∨ gk ≠ 0 := by omega
          rcases hg0 with hg0 | hg0
          · subst hg0
            obtain rfl : k = code.length := by omega
            have hge : decide ((code.length : Int) < (code.length : Int)) = false := by simp
            rw [filled_all] at HK
            go_wp2_with fail
            go_roundg (GK - 1)
            case rel => exact ⟨i + 1, by go_num, by omega, hd ⟨_, HFn.out, HK.out⟩⟩
            case measure => omega
          · have hltk : (k : Int) < (code.length : Int) := by omega
            have hrow := HK.out.codeRow (i := i) (by rw [List.length_set]; exact hlm.out)
            rw [getD_set_eq' _ _ _ _ hlm.out] at hrow
            have hfl := filled_len (⟨(m : Int), (i : Int), 0, 0, 0⟩ : Ins) code k (by omega)
            obtain ⟨bm, e1⟩ := Row.head hrow (by simp only [prD]; omega)
            simp only [prD] at e1
            subst e1
            have hrow2 : Row wr 71 5 (some ⟨bm, 0, none⟩) code.length mc (pCells (filled (⟨(m : Int), (i : Int), 0, 0, 0⟩ : Ins) code k)) := by
              have h1 : Row wr 71 5 (some ⟨bm, 0, none⟩) (filled (⟨(m : Int), (i : Int), 0, 0, 0⟩ : Ins) code k).length mc (pCells (filled (⟨(m : Int), (i : Int), 0, 0, 0⟩ : Ins) code k)) := hrow
              rwa [hfl] at h1
            obtain ⟨r1, r2, r3, r4⟩ := row_set5 hrow2 hfl k (by omega) (⟨(m : Int), (i : Int), 0, 0, 0⟩ : Ins)
            rw [filled_set _ _ _ (by omega)] at r1
            have HN : Hid (Wk w SS G (((((wr.setCell ⟨bm, k * 5, none⟩ (.int .i64 (m : Int))).setCell ⟨bm, k * 5 + 1, none⟩ (.int .i64 (i : Int))).setCell ⟨bm, k * 5 + 2, none⟩ (.int .i64 0)).setCell ⟨bm, k * 5 + 3, none⟩ (.int .i64 0)).setCell ⟨bm, k * 5 + 4, none⟩ (.int .i64 0)) (cfA c (⟨la, lc, ta, tc, pa, pc, ms⟩ : Loc)) ([⟨42, 2, (some ⟨b1, 0, none⟩), c.procs.length, c1, psC ms⟩, ⟨42, 2, pa, c.procs.length, pc, psC ms⟩, ⟨3, 1, ta, c.table.length, tc, iC (List.replicate c.table.length (m : Int))⟩, ⟨65, 1, la, c.labels.length, lc, labC (List.replicate c.labels.length m)⟩] ++ (ms'.set i ⟨⟨part, filled (⟨(m : Int), (i : Int), 0, 0, 0⟩ : Ins) code (k + 1)⟩, some ⟨bm, 0, none⟩, mc⟩).map prD)) := hd (by
              have h1 := HK.out.code (i := i) (m' := ⟨⟨part, filled (⟨(m : Int), (i : Int), 0, 0, 0⟩ : Ins) code (k + 1)⟩, some ⟨bm, 0, none⟩, mc⟩) (by rw [List.length_set]; exact hlm.out) (by rw [getD_set_eq' _ _ _ _ hlm.out]; exact r2) (by
                show Row _ 71 5 (some ⟨bm, 0, none⟩) (filled (⟨(m : Int), (i : Int), 0, 0, 0⟩ : Ins) code (k + 1)).length mc _
                rw [filled_len _ _ _ (by omega)]
                exact r1) (fun k hk => .inl (by rw [getD_set_eq' _ _ _ _ hlm.out]; exact hk))
              rw [List.set_set] at h1
              exact h1)
            obtain ⟨z0, q0⟩ := r3 0 (by omega)
            obtain ⟨z1, q1⟩ := r3 1 (by omega)
            obtain ⟨z2, q2⟩ := r3 2 (by omega)
            obtain ⟨z3, q3⟩ := r3 3 (by omega)
            obtain ⟨z4, q4⟩ := r3 4 (by omega)
            simp only [Nat.add_zero] at q0
            have hP1 := HK.out.own.ok _ (List.mem_append_left _ List.mem_cons_self)
            have y1 := row_cell hP1 (i * 2 + 1) _ (hpc.out)
            clear hrow hrow2 r1 r2 r3 hfl HK hP1
            go_wp2_with fail
            go_roundg (gk - 1)
            case rel => exact ⟨k + 1, by go_num, by omega, HN⟩
            case measure => omega
  case rest =>
  clear HC0
  obtain ⟨ms1, hF1, hW1⟩ := hcut.out
  have HD0 : Hid (∃ ms', Gw m ms ms' 0 ∧ Wk w SS G wc (cfA c (⟨la, lc, ta, tc, pa, pc, ms⟩ : Loc)) (⟨42, 2, a1, c.procs.length, c1, psC ms'⟩ :: ([⟨42, 2, pa, c.procs.length, pc, psC ms⟩, ⟨3, 1, ta, c.table.length, tc, iC (List.replicate c.table.length (m : Int))⟩, ⟨65, 1, la, c.labels.length, lc, labC (List.replicate c.labels.length m)⟩] ++ ms'.map prD))) := hd ⟨ms1, Gw.start (by rw [hml.out]; exact hF1), by
    have h1 : psC ms1 = psC ms := psC_ext hF1.1 (fun j hj => by
      rw [hF1.2 j hj]
      split
      · simp [prC]
      · rfl)
    rw [h1]
    exact hW1⟩
  clear hcut hF1 hW1
  go_upto_block 8 with fail
  go_cut [10, 69] (fun v10 v69 wy => Hid (∃ ms', Gw m ms ms' c.procs.length ∧ Wk w SS G wy (cfA c (⟨la, lc, ta, tc, pa, pc, ms⟩ : Loc)) (⟨42, 2, a1, c.procs.length, c1, psC ms'⟩ :: ([⟨42, 2, pa, c.procs.length, pc, psC ms⟩, ⟨3, 1, ta, c.table.length, tc, iC (List.replicate c.table.length (m : Int))⟩, ⟨65, 1, la, c.labels.length, lc, labC (List.replicate c.labels.length m)⟩] ++ ms'.map prD))))
  case first =>
    go_wp2_with fail
    go_loopg [10, 69, 70, 71, 72, 73, 74, 75, 76, 77, 78, 79, 80, 81, 82, 83, 84, 85, 86, 87, 88, 89] c.procs.length (fun gg v10 v69 v70 v71 v72 v73 v74 v75 v76 v77 v78 v79 v80 v81 v82 v83 v84 v85 v86 v87 v88 v89 wr => ∃ i : Nat, v69 = .int .i64 (i : Int) ∧ i + gg = c.procs.length ∧ Hid (∃ ms', Gw m ms ms' i ∧ Wk w SS G wr (cfA c (⟨la, lc, ta, tc, pa, pc, ms⟩ : Loc)) (⟨42, 2, a1, c.procs.length, c1, psC ms'⟩ :: ([⟨42, 2, pa, c.procs.length, pc, psC ms⟩, ⟨3, 1, ta, c.table.length, tc, iC (List.replicate c.table.length (m : Int))⟩, ⟨65, 1, la, c.labels.length, lc, labC (List.replicate c.labels.length m)⟩] ++ ms'.map prD))))
    case atStart => exact ⟨0, by go_num, by omega, HD0⟩
    case round =>
      clear HD0
      obtain ⟨i, rfl, hi, HW⟩ := hrel
      by_cases h0 : gk = 0
      · subst h0
        obtain rfl : i = c.procs.length := by omega
        have hge : decide ((c.procs.length : Int) < (c.procs.length : Int)) = false := by simp
        go_wp2_with fail
        go_meet
        exact HW
      · have hlt : (i : Int) < (c.procs.length : Int) := by omega
        obtain ⟨ms', hGw, hW⟩ := HW.out
        clear HW
        have hims : i < ms.length := by rw [hml.out]; omega
        have hlm : Hid (i < ms'.length) := hd (by rw [hGw.1]; exact hims)
        have hpi := hGw.2 i hims
        rw [if_neg (Nat.lt_irrefl i), Nat.add_zero] at hpi
        replace hpi := hd hpi
        have HGn : Hid (∀ x : PrM, x.p = ⟨(ms.getD i default).p.part, List.replicate ((ms.getD i default).p.code.length + 3) (⟨(m : Int), (i : Int), 0, 0, 0⟩ : Ins)⟩ → Gw m ms (ms'.set i x) (i + 1)) := hd (fun x hx => hGw.next hims hx)
        have hset : Hid (ms'.set i (ms'.getD i default) = ms') := hd (by
          have h1 := hlm.out
          rw [List.getD_eq_getElem?_getD, List.getElem?_eq_getElem h1]
          simp)
        have hcl : (ms.getD i default).p.code.length ≤ 1048576 := hl3.out _ (by rw [← hps.out]; exact List.mem_map_of_mem (getD_mem hims default))
        obtain ⟨b1, e1⟩ := hW.own.head.head (by simp only; omega)
        simp only at e1
        subst e1
        replace hW := hd hW
        clear hGw
        obtain ⟨part, hpart⟩ : ∃ x, Hid ((ms.getD i default).p.part = x) := ⟨_, rfl⟩
        obtain ⟨len, hlen⟩ : ∃ x, Hid ((ms.getD i default).p.code.length = x) := ⟨_, rfl⟩
        rw [hpart.out, hlen.out] at hpi HGn
        rw [hlen.out] at hcl
        obtain ⟨GK, rfl⟩ : ∃ x, x = gk := ⟨_, rfl⟩
        go_upto_block 10 with fail
        go_wp2_with fail
        go_loopg [72, 73, 74, 75, 76, 77, 78, 79, 80, 81, 82, 83, 84, 85, 86, 87, 88] 3 (fun gg v72 v73 v74 v75 v76 v77 v78 v79 v80 v81 v82 v83 v84 v85 v86 v87 v88 wq => ∃ t : Nat, v72 = .int .i64 (t : Int) ∧ t + gg = 3 ∧ Hid (∃ x : PrM, x.p = ⟨part, List.replicate (len + t) (⟨(m : Int), (i : Int), 0, 0, 0⟩ : Ins)⟩ ∧ Wk w SS G wq (cfA c (⟨la, lc, ta, tc, pa, pc, ms⟩ : Loc)) (⟨42, 2, (some ⟨b1, 0, none⟩), c.procs.length, c1, psC (ms'.set i x)⟩ :: ([⟨42, 2, pa, c.procs.length, pc, psC ms⟩, ⟨3, 1, ta, c.table.length, tc, iC (List.replicate c.table.length (m : Int))⟩, ⟨65, 1, la, c.labels.length, lc, labC (List.replicate c.labels.length m)⟩] ++ (ms'.set i x).map prD))))
        case atStart => exact ⟨0, by go_num, by omega, hd ⟨ms'.getD i default, hpi.out, by rw [hset.out]; exact hW.out⟩⟩
        case round =>
          clear hW
          obtain ⟨t, rfl, ht, HK⟩ := hrel
          have hg0 : gk = 0 ∨ gk ≠ 0 := by omega
          rcases hg0 with hg0 | hg0
          · subst hg0
            obtain rfl : t = 3 := by omega
            have HE : Hid (∃ ms', Gw m ms ms' (i + 1) ∧ Wk w SS G wr (cfA c (⟨la, lc, ta, tc, pa, pc, ms⟩ : Loc)) (⟨42, 2, (some ⟨b1, 0, none⟩), c.procs.length, c1, psC ms'⟩ :: ([⟨42, 2, pa, c.procs.length, pc, psC ms⟩, ⟨3, 1, ta, c.table.length, tc, iC (List.replicate c.table.length (m : Int))⟩, ⟨65, 1, la, c.labels.length, lc, labC (List.replicate c.labels.length m)⟩] ++ ms'.map prD))) := hd (by
              obtain ⟨x, hx, hK⟩ := HK.out
              exact ⟨_, HGn.out x hx, hK⟩)
            go_wp2_with fail
            go_roundg (GK - 1)
            case rel => exact ⟨i + 1, by go_num, by omega, HE⟩
            case measure => omega
          · have hlt3 : (t : Int) < 3 := by omega
            obtain ⟨x, hx, hK⟩ := HK.out
            clear HK
            have hli : i < (ms'.set i x).length := by rw [List.length_set]; exact hlm.out
            have hrow : Row wr 71 5 x.a (len + t) x.c (pCells (List.replicate (len + t) (⟨(m : Int), (i : Int), 0, 0, 0⟩ : Ins))) := by
              have h1 := Wk.codeRow (A := ⟨42, 2, some ⟨b1, 0, none⟩, c.procs.length, c1, psC (ms'.set i x)⟩ :: [⟨42, 2, pa, c.procs.length, pc, psC ms⟩, ⟨3, 1, ta, c.table.length, tc, iC (List.replicate c.table.length (m : Int))⟩, ⟨65, 1, la, c.labels.length, lc, labC (List.replicate c.labels.length m)⟩]) hK hli
              rw [getD_set_eq' _ _ _ _ hlm.out] at h1
              have h2 : Row wr 71 5 x.a x.p.code.length x.c (pCells x.p.code) := h1
              rw [hx] at h2
              simp only [List.length_replicate] at h2
              exact h2
            obtain ⟨a', c', w5, hap, hr5, hm5, hn5⟩ := push_any Tryd.underlying39 info_insn rfl (by omega) hrow (by omega) (insCells (⟨(m : Int), (i : Int), 0, 0, 0⟩ : Ins)) rfl (insCells_one _)
            have hr5' : Row w5 71 5 a' (len + t + 1) c' (pCells (List.replicate (len + (t + 1)) (⟨(m : Int), (i : Int), 0, 0, 0⟩ : Ins))) := by
              rw [← Nat.add_assoc, ← replicate_snoc, ← pCells_snoc']
              exact hr5
            have h5 := Wk.code (A := ⟨42, 2, some ⟨b1, 0, none⟩, c.procs.length, c1, psC (ms'.set i x)⟩ :: [⟨42, 2, pa, c.procs.length, pc, psC ms⟩, ⟨3, 1, ta, c.table.length, tc, iC (List.replicate c.table.length (m : Int))⟩, ⟨65, 1, la, c.labels.length, lc, labC (List.replicate c.labels.length m)⟩]) (m' := ⟨⟨part, List.replicate (len + (t + 1)) (⟨(m : Int), (i : Int), 0, 0, 0⟩ : Ins)⟩, a', c'⟩) hK hli (by rw [getD_set_eq' _ _ _ _ hlm.out]; exact hm5) (by
              show Row w5 71 5 a' (List.replicate (len + (t + 1)) (⟨(m : Int), (i : Int), 0, 0, 0⟩ : Ins)).length c' _
              rw [List.length_replicate]
              exact hr5') (fun k hk => by rw [getD_set_eq' _ _ _ _ hlm.out]; exact hn5 k hk)
            rw [List.set_set] at h5
            have hP5 : Row w5 42 2 (some ⟨b1, 0, none⟩) c.procs.length c1 (psC (ms'.set i x)) := h5.own.head
            obtain ⟨r1, r2, r3, r4⟩ := row_set hP5 (i * 2 + 1) (by omega) (.slice a' (len + t + 1) c')
            obtain ⟨vv, hv⟩ := Option.isSome_iff_exists.1 r3
            have hpx : x.p.part = part := by rw [hx]
            have HN : Hid (∃ y : PrM, y.p = ⟨part, List.replicate (len + (t + 1)) (⟨(m : Int), (i : Int), 0, 0, 0⟩ : Ins)⟩ ∧ Wk w SS G (w5.setCell ⟨b1, i * 2 + 1, none⟩ (.slice a' (len + t + 1) c')) (cfA c (⟨la, lc, ta, tc, pa, pc, ms⟩ : Loc)) (⟨42, 2, (some ⟨b1, 0, none⟩), c.procs.length, c1, psC (ms'.set i y)⟩ :: ([⟨42, 2, pa, c.procs.length, pc, psC ms⟩, ⟨3, 1, ta, c.table.length, tc, iC (List.replicate c.table.length (m : Int))⟩, ⟨65, 1, la, c.labels.length, lc, labC (List.replicate c.labels.length m)⟩] ++ (ms'.set i y).map prD))) := hd ⟨⟨⟨part, List.replicate (len + (t + 1)) (⟨(m : Int), (i : Int), 0, 0, 0⟩ : Ins)⟩, a', c'⟩, rfl, by
              refine h5.turn r2 ?_ (fun k hk => .inl hk)
              have h6 := psC_set (ms'.set i x) i hli ⟨⟨part, List.replicate (len + (t + 1)) (⟨(m : Int), (i : Int), 0, 0, 0⟩ : Ins)⟩, a', c'⟩ (by rw [getD_set_eq' _ _ _ _ hlm.out, hpx])
              rw [List.set_set] at h6
              simp only [List.length_replicate] at h6
              have h7 : (psC (ms'.set i x)).set (i * 2 + 1) (.slice a' (len + t + 1) c') = psC (ms'.set i ⟨⟨part, List.replicate (len + (t + 1)) (⟨(m : Int), (i : Int), 0, 0, 0⟩ : Ins)⟩, a', c'⟩) := h6
              rw [← h7]
              exact r1⟩
            have hP1 : Row wr 42 2 (some ⟨b1, 0, none⟩) c.procs.length c1 (psC (ms'.set i x)) := hK.own.head
            have y1 := (psC_at (ms'.set i x) i hli).2
            rw [getD_set_eq' _ _ _ _ hlm.out, hx] at y1
            simp only [List.length_replicate] at y1
            have y2 := row_cell hP1 (i * 2 + 1) _ y1
            replace hap := hd hap
            clear hrow hr5 hr5' hm5 hn5 h5 hP5 r1 r2 r3 hP1 y1 hpx hK hx
            obtain ⟨⟨xp, xcode⟩, xa, xc⟩ := x
            simp only at y2 hap
            go_wp2_with (at_builtin; refine wpList_append_run rfl _ _ _ rfl _ _ _ _ rfl rfl hap.out ?_; clear hap)
            go_roundg (gk - 1)
            case rel => exact ⟨t + 1, by go_num, by omega, HN⟩
            case measure => omega
  case rest =>
  clear HD0
  obtain ⟨ms2, hG2, hW2⟩ := hcut.out
  have HE0 : Hid (∃ (la : Option Addr) (lc : Nat) (ta : Option Addr) (tc : Nat) (pa : Option Addr) (pc : Nat) (xs0 : List Value), Wk w SS G wc #[.slice la (c.labels.length + 0) lc, .slice ta (c.table.length + 0) tc, .int .i64 c.fuel, .int .i64 c.lane, .int .i64 c.locks, .int .i64 c.log, .slice pa (c.procs.length + 0) pc] (⟨65, 1, la, c.labels.length + 0, lc, labC (List.replicate (c.labels.length + 0) m)⟩ :: ⟨3, 1, ta, c.table.length + 0, tc, iC (List.replicate (c.table.length + 0) (m : Int))⟩ :: ⟨42, 2, pa, c.procs.length + 0, pc, xs0⟩ :: ⟨42, 2, a1, c.procs.length, c1, psC ms2⟩ :: ms2.map prD)) := hd ⟨la, lc, ta, tc, pa, pc, psC ms, by
    have h1 := hW2.perm (ds' := ⟨65, 1, la, c.labels.length, lc, labC (List.replicate (c.labels.length) m)⟩ :: ⟨3, 1, ta, c.table.length, tc, iC (List.replicate (c.table.length) (m : Int))⟩ :: ⟨42, 2, pa, c.procs.length, pc, psC ms⟩ :: ⟨42, 2, a1, c.procs.length, c1, psC ms2⟩ :: ms2.map prD) (by
      refine (List.Perm.cons _ (List.perm_middle (l₁ := [_, _]))).trans ?_
      refine (List.Perm.swap _ _ _).trans ?_
      refine (List.Perm.cons _ (List.Perm.cons _ (List.Perm.swap _ _ _))).trans ?_
      refine (List.Perm.cons _ (List.Perm.swap _ _ _)).trans ?_
      refine (List.Perm.cons _ (List.Perm.cons _ (List.Perm.swap _ _ _))).trans ?_
      exact List.Perm.refl _)
    exact h1⟩
  clear hcut hW2
  replace hG2 := hd hG2
  go_upto_block 12 with fail
  go_cut [90] (fun v90 wy => Hid (∃ (la : Option Addr) (lc : Nat) (ta : Option Addr) (tc : Nat) (pa : Option Addr) (pc : Nat) (xs0 : List Value), Wk w SS G wy #[.slice la (c.labels.length + 3) lc, .slice ta (c.table.length + 3) tc, .int .i64 c.fuel, .int .i64 c.lane, .int .i64 c.locks, .int .i64 c.log, .slice pa (c.procs.length + 3) pc] (⟨65, 1, la, c.labels.length + 3, lc, labC (List.replicate (c.labels.length + 3) m)⟩ :: ⟨3, 1, ta, c.table.length + 3, tc, iC (List.replicate (c.table.length + 3) (m : Int))⟩ :: ⟨42, 2, pa, c.procs.length + 3, pc, xs0⟩ :: ⟨42, 2, a1, c.procs.length, c1, psC ms2⟩ :: ms2.map prD)))
  case first =>
    go_wp2_with fail
    go_loopg [90, 91, 92, 93, 94, 95, 96, 97, 98, 99, 100, 101, 102, 103, 104, 105, 106, 107, 108, 109, 110, 111, 112] 3 (fun gg v90 v91 v92 v93 v94 v95 v96 v97 v98 v99 v100 v101 v102 v103 v104 v105 v106 v107 v108 v109 v110 v111 v112 wr => ∃ t : Nat, v90 = .int .i64 (t : Int) ∧ t + gg = 3 ∧ Hid (∃ (la : Option Addr) (lc : Nat) (ta : Option Addr) (tc : Nat) (pa : Option Addr) (pc : Nat) (xs0 : List Value), Wk w SS G wr #[.slice la (c.labels.length + t) lc, .slice ta (c.table.length + t) tc, .int .i64 c.fuel, .int .i64 c.lane, .int .i64 c.locks, .int .i64 c.log, .slice pa (c.procs.length + t) pc] (⟨65, 1, la, c.labels.length + t, lc, labC (List.replicate (c.labels.length + t) m)⟩ :: ⟨3, 1, ta, c.table.length + t, tc, iC (List.replicate (c.table.length + t) (m : Int))⟩ :: ⟨42, 2, pa, c.procs.length + t, pc, xs0⟩ :: ⟨42, 2, a1, c.procs.length, c1, psC ms2⟩ :: ms2.map prD)))
    case atStart => exact ⟨0, by go_num, by omega, HE0⟩
    case round =>
      clear HE0
      obtain ⟨t, rfl, ht, HW⟩ := hrel
      by_cases h0 : gk = 0
      · subst h0
        obtain rfl : t = 3 := by omega
        go_wp2_with fail
        go_meet
        exact HW
      · have hlt3 : (t : Int) < 3 := by omega
        obtain ⟨la, lc, ta, tc, pa, pc, xs0, hW⟩ := HW.out
        clear HW
        obtain ⟨x1, y1, u1, hap1, r1, m1, n1⟩ := push_any Tryd.underlying23 info_u64 rfl (by omega) hW.own.head (by simp only; omega) [.int .u64 (m : Int)] rfl (labC_one [m])
        have H1 := (hW.turn (d' := ⟨65, 1, x1, c.labels.length + (t + 1), y1, labC (List.replicate (c.labels.length + (t + 1)) m)⟩) m1 (by
          have h := r1
          simp only at h
          rw [show [Value.int .u64 (m : Int)] = labC [m] from rfl, labC_app, replicate_snoc] at h
          exact h) n1)
        have q1 := H1.cell 0
        have q2 := H1.free 0
        have q0 := hW.cell 0
        simp at q0 q1
        obtain ⟨u2, hu2⟩ : ∃ W, Hid (u1.setCell ⟨G, 0, none⟩ (.slice x1 (c.labels.length + t + 1) y1) = W) := ⟨_, rfl⟩
        have H2 := H1.put 0 (.slice x1 (c.labels.length + t + 1) y1)
        rw [hu2.out] at H2
        replace hap1 := hd hap1
        clear hW H1 r1 m1 n1
        go_upto_region 32 with (at_builtin; refine wpList_append_run rfl _ _ _ rfl _ _ _ _ rfl rfl hap1.out ?_; clear hap1)
        rw [hu2.out]
        clear q0 q1 q2 hu2
        replace H2 := H2.perm (List.Perm.swap _ _ _)
        obtain ⟨x2, y2, u3, hap2, r2, m2, n2⟩ := push_any Tryd.underlying24 info_int rfl (by omega) H2.own.head (by simp only; omega) [.int .i64 (m : Int)] rfl (iC_one [(m : Int)])
        have H3 := (H2.turn (d' := ⟨3, 1, x2, c.table.length + (t + 1), y2, iC (List.replicate (c.table.length + (t + 1)) (m : Int))⟩) m2 (by
          have h := r2
          simp only at h
          rw [show [Value.int .i64 (m : Int)] = iC [(m : Int)] from rfl, iC_app, replicate_snoc] at h
          exact h) n2)
        have q1 := H3.cell 1
        have q2 := H3.free 1
        have q0 := H2.cell 1
        simp at q0 q1
        obtain ⟨u4, hu4⟩ : ∃ W, Hid (u3.setCell ⟨G, 1, none⟩ (.slice x2 (c.table.length + t + 1) y2) = W) := ⟨_, rfl⟩
        have H4 := H3.put 1 (.slice x2 (c.table.length + t + 1) y2)
        rw [hu4.out] at H4
        replace hap2 := hd hap2
        clear H2 H3 r2 m2 n2
        go_upto_region 33 with (at_builtin; refine wpList_append_run rfl _ _ _ rfl _ _ _ _ rfl rfl hap2.out ?_; clear hap2)
        rw [hu4.out]
        clear q0 q1 q2 hu4
        replace H4 := H4.perm (List.perm_middle (l₁ := [_, _]))
        obtain ⟨x3, y3, u5, hap3, r3, m3, n3⟩ := push_any Tryd.underlying25 info_proc rfl (by omega) H4.own.head (by simp only; omega) [Value.int .i64 (m : Int), Value.slice none 0 0] rfl (prC_one (⟨⟨(m : Int), []⟩, none, 0⟩ : PrM))
        have H5 := (H4.turn (d' := ⟨42, 2, x3, c.procs.length + (t + 1), y3, (xs0 ++ [Value.int .i64 (m : Int), Value.slice none 0 0])⟩) m3 r3 n3)
        have q1 := H5.cell 6
        have q2 := H5.free 6
        have q0 := H4.cell 6
        simp at q0 q1
        have H6 := H5.put 6 (.slice x3 (c.procs.length + t + 1) y3)
        have HN : Hid (∃ (la : Option Addr) (lc : Nat) (ta : Option Addr) (tc : Nat) (pa : Option Addr) (pc : Nat) (xs0 : List Value), Wk w SS G (u5.setCell ⟨G, 6, none⟩ (.slice x3 (c.procs.length + t + 1) y3)) #[.slice la (c.labels.length + (t + 1)) lc, .slice ta (c.table.length + (t + 1)) tc, .int .i64 c.fuel, .int .i64 c.lane, .int .i64 c.locks, .int .i64 c.log, .slice pa (c.procs.length + (t + 1)) pc] (⟨65, 1, la, c.labels.length + (t + 1), lc, labC (List.replicate (c.labels.length + (t + 1)) m)⟩ :: ⟨3, 1, ta, c.table.length + (t + 1), tc, iC (List.replicate (c.table.length + (t + 1)) (m : Int))⟩ :: ⟨42, 2, pa, c.procs.length + (t + 1), pc, xs0⟩ :: ⟨42, 2, a1, c.procs.length, c1, psC ms2⟩ :: ms2.map prD)) := hd ⟨x1, y1, x2, y2, x3, y3, _, (H6.perm (List.perm_middle (l₁ := [_, _])).symm).perm (List.Perm.swap _ _ _)⟩
        replace hap3 := hd hap3
        clear H4 H5 H6 r3 m3 n3
        go_wp2_with (at_builtin; refine wpList_append_run rfl _ _ _ rfl _ _ _ _ rfl rfl hap3.out ?_; clear hap3)
        go_roundg (gk - 1)
        case rel => exact ⟨t + 1, by go_num, by omega, HN⟩
        case measure => omega
  case rest =>
  clear HE0
  obtain ⟨la2, lc2, ta2, tc2, pa2, pc2, xs2, hW3⟩ := hcut.out
  have HF0 : Hid (∃ xs0, Wk w SS G wc #[.slice la2 (c.labels.length + 3) lc2, .slice ta2 (c.table.length + 3) tc2, .int .i64 c.fuel, .int .i64 c.lane, .int .i64 c.locks, .int .i64 c.log, .slice pa2 (c.procs.length + 3) pc2] (⟨42, 2, pa2, c.procs.length + 3, pc2, xs0⟩ :: ⟨65, 1, la2, c.labels.length + 3, lc2, labC (List.replicate (c.labels.length + 3) m)⟩ :: ⟨3, 1, ta2, c.table.length + 3, tc2, iC (List.replicate (c.table.length + 3) (m : Int))⟩ :: ⟨42, 2, a1, c.procs.length, c1, psC ms2⟩ :: ms2.map prD)) := hd ⟨xs2, hW3.perm (List.perm_middle (l₁ := [_, _]))⟩
  have q6 := hW3.cell 6
  simp at q6
  clear hcut hW3
  go_upto_block 14 with fail
  clear q6
  go_cut [11, 116] (fun v11 v116 wy => Hid (∃ xs0, Wk w SS G wy #[.slice la2 (c.labels.length + 3) lc2, .slice ta2 (c.table.length + 3) tc2, .int .i64 c.fuel, .int .i64 c.lane, .int .i64 c.locks, .int .i64 c.log, .slice pa2 (c.procs.length + 3) pc2] (⟨42, 2, pa2, c.procs.length + 3, pc2, xs0⟩ :: ⟨65, 1, la2, c.labels.length + 3, lc2, labC (List.replicate (c.labels.length + 3) m)⟩ :: ⟨3, 1, ta2, c.table.length + 3, tc2, iC (List.replicate (c.table.length + 3) (m : Int))⟩ :: ⟨42, 2, a1, c.procs.length, c1, psC ms2⟩ :: ms2.map prD)))
  case first =>
    go_wp2_with fail
    go_loopg [11, 116, 117, 118, 119, 120, 121, 122, 123, 124, 125] (c.procs.length + 3) (fun gg v11 v116 v117 v118 v119 v120 v121 v122 v123 v124 v125 wr => ∃ i : Nat, v116 = .int .i64 (i : Int) ∧ i + gg = c.procs.length + 3 ∧ Hid (∃ xs0, Wk w SS G wr #[.slice la2 (c.labels.length + 3) lc2, .slice ta2 (c.table.length + 3) tc2, .int .i64 c.fuel, .int .i64 c.lane, .int .i64 c.locks, .int .i64 c.log, .slice pa2 (c.procs.length + 3) pc2] (⟨42, 2, pa2, c.procs.length + 3, pc2, xs0⟩ :: ⟨65, 1, la2, c.labels.length + 3, lc2, labC (List.replicate (c.labels.length + 3) m)⟩ :: ⟨3, 1, ta2, c.table.length + 3, tc2, iC (List.replicate (c.table.length + 3) (m : Int))⟩ :: ⟨42, 2, a1, c.procs.length, c1, psC ms2⟩ :: ms2.map prD)))
    case atStart => exact ⟨0, by go_num, by omega, HF0⟩
    case round =>
      clear HF0
      obtain ⟨i, rfl, hi, HW⟩ := hrel
      by_cases h0 : gk = 0
      · subst h0
        obtain rfl : i = c.procs.length + 3 := by omega
        go_wp2_with fail
        go_meet
        exact HW
      · have hlt : (i : Int) < (c.procs.length : Int) + 3 := by omega
        obtain ⟨xs0, hW⟩ := HW.out
        clear HW
        have hrow := hW.own.head
        obtain ⟨b2, e1⟩ := hrow.head (by simp only; omega)
        simp only at e1
        subst e1
        have q0 := hW.cell 6
        simp at q0
        have r1 := row_set hrow (i * 2) (by simp only; omega) (.int .i64 (m : Int))
        have r2 := row_set r1.1 (i * 2 + 1) (by simp only; omega) (.slice none 0 0)
        have HN : Hid (∃ xs0, Wk w SS G ((wr.setCell ⟨b2, i * 2, none⟩ (.int .i64 (m : Int))).setCell ⟨b2, i * 2 + 1, none⟩ (.slice none 0 0)) #[.slice la2 (c.labels.length + 3) lc2, .slice ta2 (c.table.length + 3) tc2, .int .i64 c.fuel, .int .i64 c.lane, .int .i64 c.locks, .int .i64 c.log, .slice (some ⟨b2, 0, none⟩) (c.procs.length + 3) pc2] (⟨42, 2, (some ⟨b2, 0, none⟩), c.procs.length + 3, pc2, xs0⟩ :: ⟨65, 1, la2, c.labels.length + 3, lc2, labC (List.replicate (c.labels.length + 3) m)⟩ :: ⟨3, 1, ta2, c.table.length + 3, tc2, iC (List.replicate (c.table.length + 3) (m : Int))⟩ :: ⟨42, 2, a1, c.procs.length, c1, psC ms2⟩ :: ms2.map prD)) := hd ⟨_, hW.turn (r1.2.1.trans r2.2.1 (fun _ h => .inl h)) r2.1 (fun k hk => .inl hk)⟩
        obtain ⟨z0, hz0⟩ := Option.isSome_iff_exists.1 r1.2.2.1
        obtain ⟨z1, hz1⟩ := Option.isSome_iff_exists.1 (row_set hrow (i * 2 + 1) (by simp only; omega) (.slice none 0 0)).2.2.1
        have f0 := row_free hrow (i * 2)
        have f1 := row_free hrow (i * 2 + 1)
        clear hrow r1 r2 hW
        go_wp2_with fail
        go_roundg (gk - 1)
        case rel => exact ⟨i + 1, by go_num, by omega, HN⟩
        case measure => omega
  case rest =>
  clear HF0
  obtain ⟨xs3, hW4⟩ := hcut.out
  have q1 := hW4.cell 6
  have q2 := hW4.free 6
  simp at q1
  have H7 := hW4.put 6 (.slice a1 c.procs.length c1)
  obtain ⟨w9, hw9⟩ : ∃ W, Hid (wc.setCell ⟨G, 6, none⟩ (.slice a1 c.procs.length c1) = W) := ⟨_, rfl⟩
  rw [hw9.out] at H7
  replace H7 := hd H7
  clear hcut hW4
  go_upto_region 41 with fail
  rw [hw9.out]
  clear q1 q2 hw9
  have c0 := H7.out.cell 0
  have cc1 := H7.out.cell 1
  have c2 := H7.out.cell 2
  have c3 := H7.out.cell 3
  have c4 := H7.out.cell 4
  have c5 := H7.out.cell 5
  have c6 := H7.out.cell 6
  simp at c0 cc1 c2 c3 c4 c5 c6
  have a0 := cell_of_row w9 (G + 1) 0 _ _ _ H7.out.b0
  have aa1 := cell_of_row w9 (G + 1) 1 _ _ _ H7.out.b0
  have a2 := cell_of_row w9 (G + 1) 2 _ _ _ H7.out.b0
  have a3 := cell_of_row w9 (G + 1) 3 _ _ _ H7.out.b0
  have a4 := cell_of_row w9 (G + 1) 4 _ _ _ H7.out.b0
  have a5 := cell_of_row w9 (G + 1) 5 _ _ _ H7.out.b0
  have a6 := cell_of_row w9 (G + 1) 6 _ _ _ H7.out.b0
  simp at a0 aa1 a2 a3 a4 a5 a6
  have fz : ∀ i, w9.frozen? ⟨G + 1, i, none⟩ = false := fun i => by simp [World.frozen?, H7.out.b0]
  go_wp2_with fail
  obtain ⟨e2, e3⟩ := put7_out H7.out.b0 (.slice la2 (c.labels.length + 3) lc2) (.slice ta2 (c.table.length + 3) tc2) (.int .i64 c.fuel) (.int .i64 c.lane) (.int .i64 c.locks) (.int .i64 c.log) (.slice a1 c.procs.length c1)
  unfold put7 at e2 e3
  generalize ((((((w9.setCell ⟨G + 1, 0, none⟩ (.slice la2 (c.labels.length + 3) lc2)).setCell ⟨G + 1, 1, none⟩ (.slice ta2 (c.table.length + 3) tc2)).setCell ⟨G + 1, 2, none⟩ (.int .i64 c.fuel)).setCell ⟨G + 1, 3, none⟩ (.int .i64 c.lane)).setCell ⟨G + 1, 4, none⟩ (.int .i64 c.locks)).setCell ⟨G + 1, 5, none⟩ (.int .i64 c.log)).setCell ⟨G + 1, 6, none⟩ (.slice a1 c.procs.length c1) = WZ at *
  have d0 := cell_of_row WZ (G + 1) 0 _ _ _ e2
  have d1 := cell_of_row WZ (G + 1) 1 _ _ _ e2
  have d2 := cell_of_row WZ (G + 1) 2 _ _ _ e2
  have d3 := cell_of_row WZ (G + 1) 3 _ _ _ e2
  have d4 := cell_of_row WZ (G + 1) 4 _ _ _ e2
  have d5 := cell_of_row WZ (G + 1) 5 _ _ _ e2
  have d6 := cell_of_row WZ (G + 1) 6 _ _ _ e2
  simp at d0 d1 d2 d3 d4 d5 d6
  have hml2 : ms2.length = c.procs.length := by rw [hG2.out.1, hml.out]
  have hall : ∀ x ∈ cfD ⟨List.replicate (c.labels.length + 3) m, List.replicate (c.table.length + 3) (m : Int), c.fuel, c.lane, c.locks, c.log, psOf ms2⟩ ⟨la2, lc2, ta2, tc2, a1, c1, ms2⟩, x.ok WZ ∧ ∀ k, blk x.a = some k → SS k ∨ w.heap.size ≤ k := fun x hx => by
    have hx' : x ∈ (⟨65, 1, la2, c.labels.length + 3, lc2, labC (List.replicate (c.labels.length + 3) m)⟩ :: ⟨3, 1, ta2, c.table.length + 3, tc2, iC (List.replicate (c.table.length + 3) (m : Int))⟩ :: ⟨42, 2, a1, c.procs.length, c1, psC ms2⟩ :: ms2.map prD : List RowD) := by
      simpa [cfD, psOf_len, hml2] using hx
    have hx2 := List.mem_cons_of_mem (⟨42, 2, pa2, c.procs.length + 3, pc2, xs3⟩ : RowD) hx'
    have h1 := H7.out.own.ok x hx2
    have hf := H7.out.frm x hx2
    have hat := H7.out.at_
    refine ⟨Row.mod h1 e3 (fun k hk e => ?_), fun k hk => ?_⟩
    · rcases hf k hk with h2 | h2
      · have := H7.out.low k h2
        omega
      · omega
    · rcases hf k hk with h2 | h2
      · exact .inl h2
      · exact .inr (by omega)
  have HMd : Mod SS w WZ := H7.out.mod.trans e3 (fun k hk => .inr (by have := H7.out.at_; omega))
  have hgp : ∀ j, j < c.procs.length → (ms2.getD j default).p = ⟨(ms.getD j default).p.part, List.replicate ((ms.getD j default).p.code.length + 3) (⟨(m : Int), (j : Int), 0, 0, 0⟩ : Ins)⟩ := fun j hj => by
    have := hG2.out.2 j (by rw [hml.out]; exact hj)
    rwa [if_pos hj] at this
  have hat2 : ∀ j, j < c.procs.length → (psOf ms2).getD j default = (ms2.getD j default).p := fun j hj => by
    simp [psOf, List.getD_eq_getElem?_getD, List.getElem?_map, List.getElem?_eq_getElem (show j < ms2.length by omega)]
  have HMk : Marks ⟨List.replicate (c.labels.length + 3) m, List.replicate (c.table.length + 3) (m : Int), c.fuel, c.lane, c.locks, c.log, psOf ms2⟩ m := ⟨fun x hx => List.eq_of_mem_replicate hx, fun x hx => List.eq_of_mem_replicate hx, fun j hj x hx => by
    have hj' : j < c.procs.length := by simpa [psOf_len, hml2] using hj
    simp only at hx
    rw [hat2 j hj', hgp j hj'] at hx
    exact List.eq_of_mem_replicate hx⟩
  have HCd : ∀ p ∈ psOf ms2, p.code.length ≤ 1048576 + 3 := fun p hp => by
    obtain ⟨j, hj, rfl⟩ := List.getElem_of_mem hp
    have hj' : j < c.procs.length := by simpa [psOf_len, hml2] using hj
    have h1 := hat2 j hj'
    rw [List.getD_eq_getElem?_getD, List.getElem?_eq_getElem hj] at h1
    simp only [Option.getD_some] at h1
    rw [h1, hgp j hj']
    simp only [List.length_replicate]
    have := hl3.out ((ms.getD j default).p) (by rw [← hps.out]; exact List.mem_map_of_mem (getD_mem (by rw [hml.out]; exact hj') default))
    omega
  have HRd : CfR WZ ⟨List.replicate (c.labels.length + 3) m, List.replicate (c.table.length + 3) (m : Int), c.fuel, c.lane, c.locks, c.log, psOf ms2⟩ ⟨la2, lc2, ta2, tc2, a1, c1, ms2⟩ := ⟨(hall _ List.mem_cons_self).1.rd, (hall _ (List.mem_cons_of_mem _ List.mem_cons_self)).1.rd, (hall _ (List.mem_cons_of_mem _ (List.mem_cons_of_mem _ List.mem_cons_self))).1.rd, fun x hx => (hall (prD x) (List.mem_cons_of_mem _ (List.mem_cons_of_mem _ (List.mem_cons_of_mem _ (List.mem_map_of_mem hx))))).1.rd, rfl⟩
  refine bodyPost_ret (v := cfV ⟨List.replicate (c.labels.length + 3) m, List.replicate (c.table.length + 3) (m : Int), c.fuel, c.lane, c.locks, c.log, psOf ms2⟩ ⟨la2, lc2, ta2, tc2, a1, c1, ms2⟩) ?_ rfl ⟨⟨List.replicate (c.labels.length + 3) m, List.replicate (c.table.length + 3) (m : Int), c.fuel, c.lane, c.locks, c.log, psOf ms2⟩, ⟨la2, lc2, ta2, tc2, a1, c1, ms2⟩, rfl, ⟨HRd, fun x hx => (hall x hx).1, fun x hx => (hall x hx).2, HMd⟩, HMk, List.length_replicate, List.length_replicate, by simp [psOf_len, hml2], HCd⟩
  simp [results, Tryd.results22, go_sem, cfV, cfA, psOf_len, hml2, d0, d1, d2, d3, d4, d5, d6]
end Go.Proofs.YtmjokinagbpihaaDoor
