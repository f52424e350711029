/- Rows with room; rows written over; short. -/
import Derived.Test.YtnkanaccacephaaSWE
namespace Go.Proofs.Ytnkanaccacephaa
open Go.RowKit

structure RowD where
  e : Nat
  size : Nat
  a : Option Addr
  n : Nat
  c : Nat
  xs : List Value
def RowD.ok (W : World) (d : RowD) : Prop := Row W d.e d.size d.a d.n d.c d.xs
def apartD (d d' : RowD) : Prop := ∀ k, blk d.a = some k → blk d'.a ≠ some k
/-- Rows at blocks from B on, no two of them the same. -/
structure Owned (B : Nat) (W : World) (ds : List RowD) : Prop where
  ok : ∀ d ∈ ds, d.ok W
  new : ∀ d ∈ ds, ∀ k, blk d.a = some k → B ≤ k
  apart : ds.Pairwise apartD
theorem Owned.nil (B : Nat) (W : World) : Owned B W [] := ⟨fun _ h => (by cases h), fun _ h => (by cases h), List.Pairwise.nil⟩
theorem Owned.mod {B : Nat} {W W' : World} {ds : List RowD} {S : Nat → Prop} (h : Owned B W ds) (hm : Mod S W W') (hs : ∀ d ∈ ds, ∀ k, blk d.a = some k → ¬ S k) : Owned B W' ds :=
  ⟨fun d hd => (h.ok d hd).mod hm (hs d hd), h.new, h.apart⟩
theorem Owned.below {B : Nat} {W W' : World} {ds : List RowD} (h : Owned B W ds) (hb : Below W.heap.size W W') : Owned B W' ds := ⟨fun d hd => (h.ok d hd).below hb, h.new, h.apart⟩
theorem Owned.lt {B : Nat} {W : World} {ds : List RowD} (h : Owned B W ds) : ∀ d ∈ ds, ∀ k, blk d.a = some k → k < W.heap.size := fun d hd k hk => (h.ok d hd).lt k hk
theorem Owned.cons {B : Nat} {W : World} {ds : List RowD} (h : Owned B W ds) {d : RowD} (hd : d.ok W) (hn : ∀ k, blk d.a = some k → B ≤ k) (ha : ∀ d' ∈ ds, apartD d d') : Owned B W (d :: ds) :=
  ⟨fun d' hd' => by
    rcases List.mem_cons.1 hd' with rfl | h'
    · exact hd
    · exact h.ok d' h', fun d' hd' => by
    rcases List.mem_cons.1 hd' with rfl | h'
    · exact hn
    · exact h.new d' h', List.Pairwise.cons ha h.apart⟩
theorem Owned.perm {B : Nat} {W : World} {ds ds' : List RowD} (h : Owned B W ds) (hp : ds.Perm ds') : Owned B W ds' :=
  ⟨fun d hd => h.ok d (hp.mem_iff.2 hd), fun d hd => h.new d (hp.mem_iff.2 hd), hp.pairwise h.apart (fun hxy k hk e => hxy k e hk)⟩
theorem Owned.mono {B B' : Nat} {W : World} {ds : List RowD} (h : Owned B W ds) (hB : B' ≤ B) : Owned B' W ds := ⟨h.ok, fun d hd k hk => Nat.le_trans hB (h.new d hd k hk), h.apart⟩
theorem Owned.head {B : Nat} {W : World} {d : RowD} {ds : List RowD} (h : Owned B W (d :: ds)) : Row W d.e d.size d.a d.n d.c d.xs := h.ok d List.mem_cons_self
theorem Owned.tail {B : Nat} {W : World} {d : RowD} {ds : List RowD} (h : Owned B W (d :: ds)) : Owned B W ds :=
  ⟨fun d' hd => h.ok d' (List.mem_cons_of_mem _ hd), fun d' hd => h.new d' (List.mem_cons_of_mem _ hd), (List.pairwise_cons.1 h.apart).2⟩
/-- The first row has been changed; the others are as they were. -/
theorem Owned.turn {B : Nat} {W W' : World} {d d' : RowD} {ds : List RowD} (h : Owned B W (d :: ds)) (hB : B ≤ W.heap.size) (hm : Mod (fun k => blk d.a = some k) W W') (hd : d'.ok W') (hn : ∀ k, blk d'.a = some k → blk d.a = some k ∨ W.heap.size ≤ k) : Owned B W' (d' :: ds) := by
  have hap := (List.pairwise_cons.1 h.apart).1
  refine Owned.cons (h.tail.mod hm (fun x hx k hk hk' => hap x hx k hk' hk)) hd (fun k hk => ?_) (fun x hx k hk hk' => ?_)
  · rcases hn k hk with h1 | h1
    · exact h.new d List.mem_cons_self k h1
    · omega
  · rcases hn k hk with h1 | h1
    · exact hap x hx k h1 hk'
    · have := h.tail.lt x hx k hk'
      omega
theorem make_cap (t e : TypeId) (z : Value) (size bytes : Nat) (ht : Try.prog.underlying t = some (.slice e)) (hi : (Try.prog.info? e).map (fun i => (i.zero, i.size, i.bytes)) = some (some z, size, bytes)) (n : Nat) (hb : bytes * n ≤ 281474976710656) (h63 : n ≤ maxLen) (W : World) :
    (Instr.makeSlice t (.int .i64 0) (.int .i64 (n : Int))).run Try.prog W = .ok (.slice (some ⟨W.heap.size, 0, none⟩) 0 n) (W.alloc (.cells (madeCells z.cells (n * size)) e)) := by
  obtain ⟨i, h1, h2, h3, h4⟩ := info_parts hi
  subst h3 h4
  have h63' : (n : Int) ≤ 9223372036854775807 := by
    have h := h63
    simp [maxLen] at h
    omega
  have hb' : (i.bytes : Int) * (n : Int) ≤ 281474976710656 := by
    have h : ((i.bytes * n : Nat) : Int) ≤ 281474976710656 := by omega
    rwa [Int.natCast_mul] at h
  have hr := run_make (P := Try.prog) W t e i z ht h1 h2 .i64 .i64 0 n (by omega) (by omega) hb' h63'
  simp only [Int.toNat_natCast, Int.toNat_zero] at hr
  exact hr
/-- So many more behind a row, as append leaves it. -/
theorem pushM {T e : TypeId} {z : Value} {size bytes : Nat} (hu : Try.prog.underlying T = some (.slice e)) (hinfo : (Try.prog.info? e).map (fun i => (i.zero, i.size, i.bytes)) = some (some z, size, bytes)) (hzs : z.cells.size = size) (hb64 : bytes ≤ 64)
    {w : World} {a : Option Addr} {n c : Nat} {xs : List Value} (hR : Row w e size a n c xs) (hn : n ≤ 1000000000000) (us : List Value) {m : Nat} (hm : m ≤ 1000) (hus : us.length = m * size) (h1 : ∀ u ∈ us, u.oneCell' = true) {cs : Array Value} (hcs : cs = us.toArray) :
    ∃ a' c' w', (∀ ty, (Builtin.append_ #[T, T] ty #[.slice a n c, .slice (some ⟨w.heap.size, 0, none⟩) m m]).run Try.prog (w.alloc (.cells cs e)) = .ok (.slice a' (n + m) c') w') ∧
      Row w' e size a' (n + m) c' (xs ++ us) ∧ Mod (fun k => blk a = some k) w w' ∧ (∀ k, blk a' = some k → blk a = some k ∨ w.heap.size ≤ k) := by
  subst hcs
  obtain ⟨i, k1, k2, k3, k4⟩ := info_parts hinfo
  have hb := below_al w (.cells us.toArray e)
  have hh := heap_alloc_new w (.cells us.toArray e)
  have hs : Src Try.prog size T (.slice (some ⟨w.heap.size, 0, none⟩) m m) m us (w.alloc (.cells us.toArray e)) := by
    refine Src.ofSlice _ hu _ _ _ _ hus (fun j u hj => ?_) h1
    rw [addr_add, cell_of_row _ _ _ _ _ _ hh, Nat.zero_add]
    simpa using hj
  obtain ⟨a', c', w', m1, m2, m3, m4, _⟩ := run_append_row (P := Try.prog) _ T e i _ size bytes hu k1 k2 k3 k4 hzs (hR.below hb) _ m _ hs (by unfold maxLen; omega) (by
    have : (n + m) * bytes ≤ (n + m) * 64 := Nat.mul_le_mul_left _ hb64
    omega)
  refine ⟨a', c', w', m1, m2, (Mod.of_below _ hb).trans m3 (fun _ h => .inl h), fun k hk => ?_⟩
  rcases m4 k hk with h | h
  · exact .inl h
  · exact .inr (by have := hb.size; omega)
/-- A list copied into a row with room. -/
structure Roomy2 (T e : TypeId) (size : Nat) (W : World) (a : Option Addr) (n c : Nat) (xs : List Value) (w1 : World) (a2 : Option Addr) (c2 : Nat) (w2 : World) : Prop where
  made : (Instr.makeSlice T (.int .i64 0) (.int .i64 ((n : Int) + 2))).run Try.prog W = .ok (.slice (some ⟨W.heap.size, 0, none⟩) 0 (n + 2)) w1
  ap : ∀ ty, (Builtin.append_ #[T, T] ty #[.slice (some ⟨W.heap.size, 0, none⟩) 0 (n + 2), .slice a n c]).run Try.prog w1 = .ok (.slice a2 n c2) w2
  b1 : Below W.heap.size W w1
  b2 : Below W.heap.size W w2
  row : Row w2 e size a2 n c2 xs
  new : ∀ k, blk a2 = some k → W.heap.size ≤ k
theorem made2 {T e : TypeId} {z : Value} {size bytes : Nat} (hu : Try.prog.underlying T = some (.slice e)) (hinfo : (Try.prog.info? e).map (fun i => (i.zero, i.size, i.bytes)) = some (some z, size, bytes)) (hb64 : bytes ≤ 64) (W : World) {n : Nat} (hn : n ≤ 3000000) :
    ∃ w1, (Instr.makeSlice T (.int .i64 0) (.int .i64 ((n : Int) + 2))).run Try.prog W = .ok (.slice (some ⟨W.heap.size, 0, none⟩) 0 (n + 2)) w1 ∧ Below W.heap.size W w1 ∧ Row w1 e size (some ⟨W.heap.size, 0, none⟩) 0 (n + 2) [] := by
  have hbb : bytes * (n + 2) ≤ 64 * (n + 2) := Nat.mul_le_mul_right _ hb64
  have hmk := make_cap T e z size bytes hu hinfo (n + 2) (by omega) (by unfold maxLen; omega) W
  obtain ⟨w1, hw1⟩ : ∃ V, W.alloc (.cells (madeCells z.cells ((n + 2) * size)) e) = V := ⟨_, rfl⟩
  have hh := heap_alloc_new W (.cells (madeCells z.cells ((n + 2) * size)) e)
  have hB1 := below_al W (.cells (madeCells z.cells ((n + 2) * size)) e)
  rw [hw1] at hmk hh hB1
  have hr := (row_new (size := size) (n := n + 2) hh (by simp [madeCells]) (by unfold maxLen; omega)).cut 0 (n + 2) (Nat.zero_le _) (Nat.zero_le _) (Nat.le_refl _) (fun e => by cases e)
  simp only [Nat.zero_mul, List.take_zero] at hr
  refine ⟨w1, ?_, hB1, hr⟩
  have : ((n + 2 : Nat) : Int) = (n : Int) + 2 := by omega
  rw [this] at hmk
  exact hmk
theorem roomy {T e : TypeId} {z : Value} {size bytes : Nat} (hs0 : 0 < size) (hu : Try.prog.underlying T = some (.slice e)) (hinfo : (Try.prog.info? e).map (fun i => (i.zero, i.size, i.bytes)) = some (some z, size, bytes)) (hzs : z.cells.size = size) (hb64 : bytes ≤ 64)
    (W : World) {a : Option Addr} {n c : Nat} {xs : List Value} (hR : Rd W a xs) (hl : xs.length = n * size) (h1 : ∀ u ∈ xs, u.oneCell' = true) (hn : n ≤ 3000000) :
    ∃ w1 a2 c2 w2, Roomy2 T e size W a n c xs w1 a2 c2 w2 := by
  obtain ⟨i, k1, k2, k3, k4⟩ := info_parts hinfo
  obtain ⟨w1, hmk, hB1, hr⟩ := made2 (size := size) hu hinfo hb64 W hn
  obtain ⟨a2, c2, w2, m1, m2, m3, m4, _⟩ := run_append_row (P := Try.prog) w1 T e i _ size bytes hu k1 k2 k3 k4 hzs hr (.slice a n c) n xs ((hR.below hB1).src hu hl hs0 h1) (by unfold maxLen; omega) (by
    have : (0 + n) * bytes ≤ (0 + n) * 64 := Nat.mul_le_mul_left _ hb64
    omega)
  simp only [Nat.zero_add, List.nil_append] at m1 m2
  refine ⟨w1, a2, c2, w2, ⟨hmk, m1, hB1, hB1.trans (m3.below hB1.size (fun k _ e => by cases e; exact Nat.le_refl _)), m2, fun k hk => ?_⟩⟩
  rcases m4 k hk with h | h
  · cases h; exact Nat.le_refl _
  · exact Nat.le_trans hB1.size h
theorem Owned.plus {B : Nat} {W W' : World} {ds : List RowD} (h : Owned B W ds) (hB : B ≤ W.heap.size) (hb : Below W.heap.size W W') {d : RowD} (hd : d.ok W') (hn : ∀ k, blk d.a = some k → W.heap.size ≤ k) : Owned B W' (d :: ds) :=
  (h.below hb).cons hd (fun k hk => Nat.le_trans hB (hn k hk)) (fun d' hd' k hk e => by have h1 := hn k hk; have h2 := h.lt d' hd' k e; omega)
theorem Row.short {W : World} {e size : Nat} {a : Option Addr} {n c : Nat} {xs us : List Value} (h : Row W e size a (n + 2) c (xs ++ us)) (hl : xs.length = n * size) : Row W e size a n c xs := by
  have hc := h.capLe
  have h1 := h.cut n c (by omega) (by omega) (Nat.le_refl _) (fun e => h.room e)
  rw [List.take_append_of_le_length (by omega), List.take_of_length_le (by omega)] at h1
  exact h1
/-- One cell of a row is written. -/
theorem row_set {w : World} {e : TypeId} {size g n cap : Nat} {xs : List Value} (h : Row w e size (some ⟨g, 0, none⟩) n cap xs) (j : Nat) (hj : j < n * size) (v : Value) :
    Row (w.setCell ⟨g, j, none⟩ v) e size (some ⟨g, 0, none⟩) n cap (xs.set j v) ∧ Mod (fun k => blk (some (⟨g, 0, none⟩ : Addr)) = some k) w (w.setCell ⟨g, j, none⟩ v) ∧ (w.cell? ⟨g, j, none⟩).isSome = true ∧ w.frozen? ⟨g, j, none⟩ = false := by
  obtain ⟨h1, h2, h3, ⟨h4, -⟩ | ⟨g', cur, h4, hg, hs, ht⟩⟩ := h
  · cases h4
  · cases h4
    have hjc : j < cur.size := by
      have : n * size ≤ cap * size := Nat.mul_le_mul_right _ h2
      omega
    refine ⟨⟨by rw [List.length_set]; exact h1, h2, h3, .inr ⟨g, cur.setIfInBounds j v, rfl, heap_setCell_same w g j _ _ v hg, by simpa using hs, ?_⟩⟩, (Mod.refl (fun k => blk (some (⟨g, 0, none⟩ : Addr)) = some k) w).setCell (.inl (show blk (some (⟨g, 0, none⟩ : Addr)) = some g from rfl)) v, ?_, by simp [World.frozen?, hg]⟩
    · rw [Array.toList_setIfInBounds, List.take_set, ht]
    · rw [cell_of_row _ _ _ _ _ _ hg, Array.getElem?_eq_getElem hjc]
      rfl
theorem row_cell {w : World} {e : TypeId} {size g n cap : Nat} {xs : List Value} (h : Row w e size (some ⟨g, 0, none⟩) n cap xs) (j : Nat) (v : Value) (hv : xs[j]? = some v) : w.cell? ⟨g, j, none⟩ = some v := by
  obtain ⟨b, o, e, hc⟩ := h.rd j v hv
  cases e
  rw [Nat.zero_add] at hc
  exact hc
theorem row_free {w : World} {e : TypeId} {size g n cap : Nat} {xs : List Value} (h : Row w e size (some ⟨g, 0, none⟩) n cap xs) (j : Nat) : w.frozen? ⟨g, j, none⟩ = false := h.free j g rfl
/-- A list whose first elements are x. -/
def filled {α : Type} (x : α) (l : List α) (i : Nat) : List α := List.replicate i x ++ l.drop i
theorem filled_len {α : Type} (x : α) (l : List α) (i : Nat) (h : i ≤ l.length) : (filled x l i).length = l.length := by simp [filled]; omega
theorem filled_zero {α : Type} (x : α) (l : List α) : filled x l 0 = l := by simp [filled]
theorem filled_all {α : Type} (x : α) (l : List α) : filled x l l.length = List.replicate l.length x := by simp [filled]
theorem filled_set {α : Type} (x : α) (l : List α) (i : Nat) (h : i < l.length) : (filled x l i).set i x = filled x l (i + 1) := by
  unfold filled
  rw [List.set_append_right _ _ (by simp), List.length_replicate, Nat.sub_self, List.drop_eq_getElem_cons h, List.set_cons_zero, List.replicate_succ', List.append_assoc]
  rfl
theorem rd_off {W : World} {b n : Nat} {xs us : List Value} (h : Rd W (some ⟨b, 0, none⟩) (xs ++ us)) (hn : xs.length = n) : Rd W (some ⟨b, n, none⟩) us := fun j u hj => by
  obtain ⟨b', o', e, hc⟩ := h (n + j) u (by rw [List.getElem?_append_right (by omega), hn, Nat.add_sub_cancel_left]; exact hj)
  cases e
  rw [Nat.zero_add] at hc
  exact ⟨b, n, rfl, hc⟩
theorem rd_at {W : World} {b n : Nat} {us : List Value} (h : Rd W (some ⟨b, n, none⟩) us) (r : Nat) (u : Value) (hr : us[r]? = some u) : W.cell? ⟨b, n + r, none⟩ = some u := by
  obtain ⟨b', o', e, hc⟩ := h r u hr
  cases e
  exact hc
/-- Worlds behind one, in which what was there is as it was. -/
structure BelW (w : World) where
  val : World
  bel : Below w.heap.size w val
/-- A region that draws its order and whose calls leave worlds of a family: one walk, in the order of the text. -/
theorem wp_region_family {P : Program} {id : Nat} {Q : Exit → Act → World → Prop} {a : Act} {w : World} {l : List Oper} {α : Type} (f : α → World) (hm : P.follows .mixedOrders = true) (hB : Region.lexB .any l.toArray = true)
    (p0 : α) (h0 : f p0 = w.drew) (h : wpQuiet P l.toArray (fun w' => ∃ p, w' = f p) (fun a' => ∀ w', (∃ p, w' = f p) → Q .normal a' w') l a) : (Code.region id l.toArray true).wp P Q a w :=
  wp_region_quiet (C := fun w' => ∃ p, w' = f p) hm hB ⟨p0, h0.symm⟩ (by simpa using h)

/-- One row among many has been changed. -/
theorem Owned.turnAt {B : Nat} {W W' : World} {d d' : RowD} {ds es : List RowD} (h : Owned B W (ds ++ d :: es)) (hB : B ≤ W.heap.size) (hm : Mod (fun k => blk d.a = some k) W W') (hd : d'.ok W') (hn : ∀ k, blk d'.a = some k → blk d.a = some k ∨ W.heap.size ≤ k) : Owned B W' (ds ++ d' :: es) :=
  ((h.perm List.perm_middle).turn hB hm hd hn).perm List.perm_middle.symm
theorem Owned.at {B : Nat} {W : World} {d : RowD} {ds es : List RowD} (h : Owned B W (ds ++ d :: es)) : Row W d.e d.size d.a d.n d.c d.xs := h.ok d (by simp)

theorem Owned.front {B : Nat} {W : World} {ds es : List RowD} (h : Owned B W (ds ++ es)) : Owned B W ds :=
  ⟨fun d hd => h.ok d (List.mem_append_left _ hd), fun d hd => h.new d (List.mem_append_left _ hd), (List.pairwise_append.1 h.apart).1⟩

/-- Three cells of a row are written. -/
theorem row_set3 {w : World} {e : TypeId} {g n cap : Nat} {xs : List Value} (h : Row w e 3 (some ⟨g, 0, none⟩) n cap xs) (j : Nat) (hj : j < n) (v0 v1 v2 : Value) :
    (∃ ys, Row (((w.setCell ⟨g, j * 3, none⟩ v0).setCell ⟨g, j * 3 + 1, none⟩ v1).setCell ⟨g, j * 3 + 2, none⟩ v2) e 3 (some ⟨g, 0, none⟩) n cap ys) ∧ Mod (fun k => blk (some (⟨g, 0, none⟩ : Addr)) = some k) w (((w.setCell ⟨g, j * 3, none⟩ v0).setCell ⟨g, j * 3 + 1, none⟩ v1).setCell ⟨g, j * 3 + 2, none⟩ v2) ∧
      ((w.cell? ⟨g, j * 3, none⟩).isSome = true ∧ (w.cell? ⟨g, j * 3 + 1, none⟩).isSome = true ∧ (w.cell? ⟨g, j * 3 + 2, none⟩).isSome = true) ∧ ∀ i, w.frozen? ⟨g, i, none⟩ = false := by
  obtain ⟨a1, a2, a3, a4⟩ := row_set h (j * 3) (by omega) v0
  obtain ⟨b1, b2, b3, b4⟩ := row_set a1 (j * 3 + 1) (by omega) v1
  obtain ⟨c1, c2, c3, c4⟩ := row_set b1 (j * 3 + 2) (by omega) v2
  obtain ⟨_, _, d3, _⟩ := row_set h (j * 3 + 1) (by omega) v1
  obtain ⟨_, _, e3, _⟩ := row_set h (j * 3 + 2) (by omega) v2
  exact ⟨⟨_, c1⟩, (a2.trans b2 (fun _ h => .inl h)).trans c2 (fun _ h => .inl h), ⟨a3, d3, e3⟩, fun i => row_free h i⟩
theorem bC_set (l : List Nat) (i x : Nat) : (bCells l).set i (.int .u8 (x : Int)) = bCells (l.set i x) := by simp [bCells, List.map_set]

theorem shortS_any (a : Option Addr) (n cap : Nat) (w : World) (h : n ≤ cap) :
    Calls Try.prog 16 #[.slice a n cap] w fun e w' => e = .returned (.slice a (min n 1048576) (min n 1048576)) ∧ w' = w := by
  by_cases h1 : n ≤ 1048576
  · rw [Nat.min_eq_left h1]
    by_cases h2 : n = 1048576
    · subst h2
      go_enter Try.func16, Try.ntmps16
      go_wp2_with fail
      go_ret
      exact ⟨rfl, rfl⟩
    · have d1 : (n : Int) < 1048576 := by omega
      go_enter Try.func16, Try.ntmps16
      go_wp2_with fail
      go_ret
      exact ⟨rfl, rfl⟩
  · rw [Nat.min_eq_right (by omega)]
    have d1 : (1048576 : Int) < (n : Int) := by omega
    have d2 : 1048576 ≤ cap := by omega
    go_enter Try.func16, Try.ntmps16
    go_wp2_with fail
    go_ret
    exact ⟨rfl, rfl⟩

theorem shortB_any (a : Option Addr) (n cap : Nat) (w : World) (h : n ≤ cap) :
    Calls Try.prog 17 #[.slice a n cap] w fun e w' => e = .returned (.slice a (min n 1048576) (min n 1048576)) ∧ w' = w := by
  by_cases h1 : n ≤ 1048576
  · rw [Nat.min_eq_left h1]
    by_cases h2 : n = 1048576
    · subst h2
      go_enter Try.func17, Try.ntmps17
      go_wp2_with fail
      go_ret
      exact ⟨rfl, rfl⟩
    · have d1 : (n : Int) < 1048576 := by omega
      go_enter Try.func17, Try.ntmps17
      go_wp2_with fail
      go_ret
      exact ⟨rfl, rfl⟩
  · rw [Nat.min_eq_right (by omega)]
    have d1 : (1048576 : Int) < (n : Int) := by omega
    have d2 : 1048576 ≤ cap := by omega
    go_enter Try.func17, Try.ntmps17
    go_wp2_with fail
    go_ret
    exact ⟨rfl, rfl⟩
end Go.Proofs.Ytnkanaccacephaa
