/- What Of leaves; a row of things that is filled, place by place. -/
import Derived.Test.YtjbmljheepomnaaVP3
namespace Go.Proofs.Ytjbmljheepomnaa
open Go.RowKit

theorem info_part : (Try.prog.info? 43).map (fun i => (i.zero, i.size, i.bytes)) = some (some (.agg #[.int .i64 0, .slice none 0 0, .int .i64 0, .int .i64 0, .slice none 0 0, .slice none 0 0]), 6, 96) := by kernel_rfl
theorem info_process : (Try.prog.info? 49).map (fun i => (i.zero, i.size, i.bytes)) = some (some (.agg #[.int .i64 0, .int .i64 0, .int .i64 0, .int .i64 0, .int .i64 0, .int .i64 0, .int .i64 0, .int .i64 0, .int .i64 0, .int .i64 0, .int .i64 0, .int .i64 0, .bool false, .int .i64 0, .slice none 0 0]), 15, 136) := by kernel_rfl
theorem make_eq (t e : TypeId) (z : Value) (size bytes : Nat) (ht : Try.prog.underlying t = some (.slice e)) (hi : (Try.prog.info? e).map (fun i => (i.zero, i.size, i.bytes)) = some (some z, size, bytes)) (n : Nat) (hb : bytes * n ≤ 281474976710656) (h63 : n ≤ maxLen) (W : World) :
    (Instr.makeSlice t (.int .i64 (n : Int)) (.int .i64 (n : Int))).run Try.prog W = .ok (.slice (some ⟨W.heap.size, 0, none⟩) n n) (W.alloc (.cells (madeCells z.cells (n * size)) e)) := by
  obtain ⟨i, h1, h2, h3, h4⟩ := info_parts hi
  subst h3 h4
  have h63' : (n : Int) ≤ 9223372036854775807 := by
    have h := h63
    simp [maxLen] at h
    omega
  have hb' : (i.bytes : Int) * (n : Int) ≤ 281474976710656 := by
    have h : ((i.bytes * n : Nat) : Int) ≤ 281474976710656 := by omega
    rwa [Int.natCast_mul] at h
  have hr := run_make (P := Try.prog) W t e i z ht h1 h2 .i64 .i64 n n (by omega) (Int.le_refl _) hb' h63'
  simp only [Int.toNat_natCast] at hr
  exact hr
theorem made_el (z : Array Value) (n j : Nat) (hj : j < n) : el z.size (madeCells z (n * z.size)).toList j = z.toList := by
  apply List.ext_getElem?
  intro q
  by_cases hq : q < z.size
  · rw [el_at _ _ _ _ hq]
    have h2 : j * z.size + q < n * z.size := by
      have := Nat.mul_le_mul_right z.size (show j + 1 ≤ n from hj)
      rw [Nat.succ_mul] at this
      omega
    have h3 : (j * z.size + q) % z.size = q := by
      rw [Nat.mul_comm, Nat.mul_add_mod, Nat.mod_eq_of_lt hq]
    unfold madeCells
    simp [h2, h3, hq]
  · have h1 : (el z.size (madeCells z (n * z.size)).toList j)[q]? = none := by unfold el; rw [List.getElem?_take, if_neg hq]
    rw [h1, List.getElem?_eq_none (by simpa using hq)]
theorem row_made (w : World) {e : TypeId} {size n : Nat} (z : Array Value) (hn : n ≤ maxLen) : Row (w.alloc (.cells (madeCells z (n * size)) e)) e size (some ⟨w.heap.size, 0, none⟩) n n (madeCells z (n * size)).toList := row_new (heap_alloc_new w _) (size_madeCells _ _) hn

/-- A row whose first i places are filled, each with what lies in new memory of its own. -/
structure GI {α : Type} [Inhabited α] (T : TypeId) (sz : Nat) (E : Nat → Nat → World → List Value → α → Prop) (zs : List Value) (W1 : World) (P n : Nat) (xs : List α) (i : Nat) (wr : World) : Prop where
  ex : ∃ (L : List Value) (b : Nat → Nat), Row wr T sz (some ⟨P, 0, none⟩) n n L ∧ b 0 = W1.heap.size ∧ b i = wr.heap.size ∧ (∀ j, j < i → b j ≤ b (j + 1)) ∧ (∀ j, j < i → E (b j) (b (j + 1)) wr (el sz L j) (xs.getD j default)) ∧ (∀ j, i ≤ j → j < n → el sz L j = zs)
  md : Mod (fun k => k = P) W1 wr
  lt : P < W1.heap.size
section
variable {α : Type} [Inhabited α] {T : TypeId} {sz : Nat} {E : Nat → Nat → World → List Value → α → Prop} {zs : List Value} {W1 wr wa wb w2 F : World} {P n i : Nat} {xs : List α} {cs : List Value}
theorem GI.next (h : GI T sz E zs W1 P n xs i wr) (hk : ∀ lo hi w w' cs x, (∀ k, lo ≤ k → k < hi → w'.heap[k]? = w.heap[k]?) → E lo hi w cs x → E lo hi w' cs x)
    (hs : wr.heap.size ≤ F.heap.size) (hF : ∀ k, k ≠ P → k < wr.heap.size → F.heap[k]? = wr.heap[k]?) (ho : F.os = wr.os) (ht : F.tape = wr.tape) (hu : F.output = wr.output)
    (hrow : ∀ L, Row wr T sz (some ⟨P, 0, none⟩) n n L → (∀ j, i ≤ j → j < n → el sz L j = zs) → ∃ L', Row F T sz (some ⟨P, 0, none⟩) n n L' ∧ (∀ j, j ≠ i → el sz L' j = el sz L j) ∧ E wr.heap.size F.heap.size F (el sz L' i) (xs.getD i default)) : GI T sz E zs W1 P n xs (i + 1) F := by
  obtain ⟨⟨L, b, r1, r2, r3, r4, r5, r6⟩, hmd, hlt⟩ := h
  obtain ⟨L', q1, q2, q3⟩ := hrow L r1 r6
  have hml := mono_le i r4
  have hsz : W1.heap.size ≤ wr.heap.size := hmd.size
  refine ⟨⟨L', fun j => if j ≤ i then b j else F.heap.size, q1, by simpa using r2, by show (if i + 1 ≤ i then b (i + 1) else F.heap.size) = _; rw [if_neg (by omega)], fun j hj => ?_, fun j hj => ?_, fun j hj hjn => by rw [q2 j (by omega)]; exact r6 j (by omega) hjn⟩, ?_, hlt⟩
  · by_cases e : j = i
    · subst e
      simp only [Nat.le_refl, if_true]
      rw [if_neg (by omega), r3]
      exact hs
    · have h1 : j ≤ i := by omega
      have h2 : j + 1 ≤ i := by omega
      simp only [h1, h2, if_true]
      exact r4 j (by omega)
  · by_cases e : j = i
    · subst e
      simp only [Nat.le_refl, if_true]
      rw [if_neg (by omega), r3]
      exact q3
    · have h1 : j ≤ i := by omega
      have h2 : j + 1 ≤ i := by omega
      simp only [h1, h2, if_true]
      rw [q2 j e]
      have hj1 := hml j h1
      have hj2 := hml (j + 1) h2
      exact hk _ _ _ _ _ _ (fun k l1 l2 => hF k (by omega) (by omega)) (r5 j (by omega))
  · exact hmd.trans (S' := fun k => k = P) ⟨ho, ht, hu, hs, fun k hk1 hk2 => hF k hk2 hk1⟩ (fun k hk => .inl hk)
theorem GI.skip (h : GI T sz E zs W1 P n xs i wr) (hi : i < n) (hk : ∀ lo hi w w' cs x, (∀ k, lo ≤ k → k < hi → w'.heap[k]? = w.heap[k]?) → E lo hi w cs x → E lo hi w' cs x) (hb : Below wr.heap.size wr wa) (hE : E wr.heap.size wa.heap.size wa zs (xs.getD i default)) : GI T sz E zs W1 P n xs (i + 1) wa :=
  h.next hk hb.size (fun k _ k2 => hb.block k k2) hb.os hb.tape hb.output fun L r1 r6 => ⟨L, r1.below hb, fun _ _ => rfl, by rw [r6 i (Nat.le_refl _) hi]; exact hE⟩
end
theorem row_fill6 {w : World} {T : TypeId} {n cap g i : Nat} {L : List Value} (h : Row w T 6 (some ⟨g, 0, none⟩) n cap L) (hi : i < n) (v0 v1 v2 v3 v4 v5 : Value) : ∃ L', Row ((((((w.setCell ⟨g, i * 6, none⟩ v0).setCell ⟨g, i * 6 + 1, none⟩ v1).setCell ⟨g, i * 6 + 2, none⟩ v2).setCell ⟨g, i * 6 + 3, none⟩ v3).setCell ⟨g, i * 6 + 4, none⟩ v4).setCell ⟨g, i * 6 + 5, none⟩ v5) T 6 (some ⟨g, 0, none⟩) n cap L' ∧ (∀ j, j ≠ i → el 6 L' j = el 6 L j) ∧ el 6 L' i = [v0, v1, v2, v3, v4, v5] := by
  obtain ⟨g0, e0, h0, -, -⟩ := row_put h (i * 6) (by omega) v0
  cases e0
  obtain ⟨g1, e1, h1, -, -⟩ := row_put h0 (i * 6 + 1) (by omega) v1
  cases e1
  obtain ⟨g2, e2, h2, -, -⟩ := row_put h1 (i * 6 + 2) (by omega) v2
  cases e2
  obtain ⟨g3, e3, h3, -, -⟩ := row_put h2 (i * 6 + 3) (by omega) v3
  cases e3
  obtain ⟨g4, e4, h4, -, -⟩ := row_put h3 (i * 6 + 4) (by omega) v4
  cases e4
  obtain ⟨g5, e5, h5, -, -⟩ := row_put h4 (i * 6 + 5) (by omega) v5
  cases e5
  refine ⟨_, h5, fun j hj => ?_, ?_⟩
  · rw [el_set (sz := 6) (r := 5) (by decide), if_neg hj]; rw [el_set (sz := 6) (r := 4) (by decide), if_neg hj]; rw [el_set (sz := 6) (r := 3) (by decide), if_neg hj]; rw [el_set (sz := 6) (r := 2) (by decide), if_neg hj]; rw [el_set (sz := 6) (r := 1) (by decide), if_neg hj]
    have := el_set (sz := 6) (L := L) (i := i) (j := j) (r := 0) (v := v0) (by decide)
    rw [Nat.add_zero] at this
    rw [this, if_neg hj]
  · rw [el_set (sz := 6) (r := 5) (by decide), if_pos rfl]; rw [el_set (sz := 6) (r := 4) (by decide), if_pos rfl]; rw [el_set (sz := 6) (r := 3) (by decide), if_pos rfl]; rw [el_set (sz := 6) (r := 2) (by decide), if_pos rfl]; rw [el_set (sz := 6) (r := 1) (by decide), if_pos rfl]
    have := el_set (sz := 6) (L := L) (i := i) (j := i) (r := 0) (v := v0) (by decide)
    rw [Nat.add_zero] at this
    rw [this, if_pos rfl]
    have hl := el_len (sz := 6) (L := L) h.len hi
    generalize el 6 L i = M at *
    match M, hl with
    | [x0, x1, x2, x3, x4, x5], _ => rfl
theorem fill6_other (w : World) (g i : Nat) (v0 v1 v2 v3 v4 v5 : Value) : ((((((w.setCell ⟨g, i * 6, none⟩ v0).setCell ⟨g, i * 6 + 1, none⟩ v1).setCell ⟨g, i * 6 + 2, none⟩ v2).setCell ⟨g, i * 6 + 3, none⟩ v3).setCell ⟨g, i * 6 + 4, none⟩ v4).setCell ⟨g, i * 6 + 5, none⟩ v5).heap.size = w.heap.size ∧ (((((((w.setCell ⟨g, i * 6, none⟩ v0).setCell ⟨g, i * 6 + 1, none⟩ v1).setCell ⟨g, i * 6 + 2, none⟩ v2).setCell ⟨g, i * 6 + 3, none⟩ v3).setCell ⟨g, i * 6 + 4, none⟩ v4).setCell ⟨g, i * 6 + 5, none⟩ v5).os = w.os ∧ ((((((w.setCell ⟨g, i * 6, none⟩ v0).setCell ⟨g, i * 6 + 1, none⟩ v1).setCell ⟨g, i * 6 + 2, none⟩ v2).setCell ⟨g, i * 6 + 3, none⟩ v3).setCell ⟨g, i * 6 + 4, none⟩ v4).setCell ⟨g, i * 6 + 5, none⟩ v5).tape = w.tape ∧ ((((((w.setCell ⟨g, i * 6, none⟩ v0).setCell ⟨g, i * 6 + 1, none⟩ v1).setCell ⟨g, i * 6 + 2, none⟩ v2).setCell ⟨g, i * 6 + 3, none⟩ v3).setCell ⟨g, i * 6 + 4, none⟩ v4).setCell ⟨g, i * 6 + 5, none⟩ v5).output = w.output) ∧ ∀ k, k ≠ g → ((((((w.setCell ⟨g, i * 6, none⟩ v0).setCell ⟨g, i * 6 + 1, none⟩ v1).setCell ⟨g, i * 6 + 2, none⟩ v2).setCell ⟨g, i * 6 + 3, none⟩ v3).setCell ⟨g, i * 6 + 4, none⟩ v4).setCell ⟨g, i * 6 + 5, none⟩ v5).heap[k]? = w.heap[k]? := by
  have hb : Below 0 w ((((((w.setCell ⟨g, i * 6, none⟩ v0).setCell ⟨g, i * 6 + 1, none⟩ v1).setCell ⟨g, i * 6 + 2, none⟩ v2).setCell ⟨g, i * 6 + 3, none⟩ v3).setCell ⟨g, i * 6 + 4, none⟩ v4).setCell ⟨g, i * 6 + 5, none⟩ v5) := (below_set (below_set (below_set (below_set (below_set (below_set (Below.refl 0 w) (Nat.zero_le _)) (Nat.zero_le _)) (Nat.zero_le _)) (Nat.zero_le _)) (Nat.zero_le _)) (Nat.zero_le _))
  exact ⟨by simp only [setCell_size], ⟨hb.os, hb.tape, hb.output⟩, fun k hk => by simp only [setCell_other _ _ _ _ _ hk]⟩
theorem row_fill15 {w : World} {T : TypeId} {n cap g i : Nat} {L : List Value} (h : Row w T 15 (some ⟨g, 0, none⟩) n cap L) (hi : i < n) (v0 v1 v2 v3 v4 v5 v6 v7 v8 v9 v10 v11 v12 v13 v14 : Value) : ∃ L', Row (((((((((((((((w.setCell ⟨g, i * 15, none⟩ v0).setCell ⟨g, i * 15 + 1, none⟩ v1).setCell ⟨g, i * 15 + 2, none⟩ v2).setCell ⟨g, i * 15 + 3, none⟩ v3).setCell ⟨g, i * 15 + 4, none⟩ v4).setCell ⟨g, i * 15 + 5, none⟩ v5).setCell ⟨g, i * 15 + 6, none⟩ v6).setCell ⟨g, i * 15 + 7, none⟩ v7).setCell ⟨g, i * 15 + 8, none⟩ v8).setCell ⟨g, i * 15 + 9, none⟩ v9).setCell ⟨g, i * 15 + 10, none⟩ v10).setCell ⟨g, i * 15 + 11, none⟩ v11).setCell ⟨g, i * 15 + 12, none⟩ v12).setCell ⟨g, i * 15 + 13, none⟩ v13).setCell ⟨g, i * 15 + 14, none⟩ v14) T 15 (some ⟨g, 0, none⟩) n cap L' ∧ (∀ j, j ≠ i → el 15 L' j = el 15 L j) ∧ el 15 L' i = [v0, v1, v2, v3, v4, v5, v6, v7, v8, v9, v10, v11, v12, v13, v14] := by
  obtain ⟨g0, e0, h0, -, -⟩ := row_put h (i * 15) (by omega) v0
  cases e0
  obtain ⟨g1, e1, h1, -, -⟩ := row_put h0 (i * 15 + 1) (by omega) v1
  cases e1
  obtain ⟨g2, e2, h2, -, -⟩ := row_put h1 (i * 15 + 2) (by omega) v2
  cases e2
  obtain ⟨g3, e3, h3, -, -⟩ := row_put h2 (i * 15 + 3) (by omega) v3
  cases e3
  obtain ⟨g4, e4, h4, -, -⟩ := row_put h3 (i * 15 + 4) (by omega) v4
  cases e4
  obtain ⟨g5, e5, h5, -, -⟩ := row_put h4 (i * 15 + 5) (by omega) v5
  cases e5
  obtain ⟨g6, e6, h6, -, -⟩ := row_put h5 (i * 15 + 6) (by omega) v6
  cases e6
  obtain ⟨g7, e7, h7, -, -⟩ := row_put h6 (i * 15 + 7) (by omega) v7
  cases e7
  obtain ⟨g8, e8, h8, -, -⟩ := row_put h7 (i * 15 + 8) (by omega) v8
  cases e8
  obtain ⟨g9, e9, h9, -, -⟩ := row_put h8 (i * 15 + 9) (by omega) v9
  cases e9
  obtain ⟨g10, e10, h10, -, -⟩ := row_put h9 (i * 15 + 10) (by omega) v10
  cases e10
  obtain ⟨g11, e11, h11, -, -⟩ := row_put h10 (i * 15 + 11) (by omega) v11
  cases e11
  obtain ⟨g12, e12, h12, -, -⟩ := row_put h11 (i * 15 + 12) (by omega) v12
  cases e12
  obtain ⟨g13, e13, h13, -, -⟩ := row_put h12 (i * 15 + 13) (by omega) v13
  cases e13
  obtain ⟨g14, e14, h14, -, -⟩ := row_put h13 (i * 15 + 14) (by omega) v14
  cases e14
  refine ⟨_, h14, fun j hj => ?_, ?_⟩
  · rw [el_set (sz := 15) (r := 14) (by decide), if_neg hj]; rw [el_set (sz := 15) (r := 13) (by decide), if_neg hj]; rw [el_set (sz := 15) (r := 12) (by decide), if_neg hj]; rw [el_set (sz := 15) (r := 11) (by decide), if_neg hj]; rw [el_set (sz := 15) (r := 10) (by decide), if_neg hj]; rw [el_set (sz := 15) (r := 9) (by decide), if_neg hj]; rw [el_set (sz := 15) (r := 8) (by decide), if_neg hj]; rw [el_set (sz := 15) (r := 7) (by decide), if_neg hj]; rw [el_set (sz := 15) (r := 6) (by decide), if_neg hj]; rw [el_set (sz := 15) (r := 5) (by decide), if_neg hj]; rw [el_set (sz := 15) (r := 4) (by decide), if_neg hj]; rw [el_set (sz := 15) (r := 3) (by decide), if_neg hj]; rw [el_set (sz := 15) (r := 2) (by decide), if_neg hj]; rw [el_set (sz := 15) (r := 1) (by decide), if_neg hj]
    have := el_set (sz := 15) (L := L) (i := i) (j := j) (r := 0) (v := v0) (by decide)
    rw [Nat.add_zero] at this
    rw [this, if_neg hj]
  · rw [el_set (sz := 15) (r := 14) (by decide), if_pos rfl]; rw [el_set (sz := 15) (r := 13) (by decide), if_pos rfl]; rw [el_set (sz := 15) (r := 12) (by decide), if_pos rfl]; rw [el_set (sz := 15) (r := 11) (by decide), if_pos rfl]; rw [el_set (sz := 15) (r := 10) (by decide), if_pos rfl]; rw [el_set (sz := 15) (r := 9) (by decide), if_pos rfl]; rw [el_set (sz := 15) (r := 8) (by decide), if_pos rfl]; rw [el_set (sz := 15) (r := 7) (by decide), if_pos rfl]; rw [el_set (sz := 15) (r := 6) (by decide), if_pos rfl]; rw [el_set (sz := 15) (r := 5) (by decide), if_pos rfl]; rw [el_set (sz := 15) (r := 4) (by decide), if_pos rfl]; rw [el_set (sz := 15) (r := 3) (by decide), if_pos rfl]; rw [el_set (sz := 15) (r := 2) (by decide), if_pos rfl]; rw [el_set (sz := 15) (r := 1) (by decide), if_pos rfl]
    have := el_set (sz := 15) (L := L) (i := i) (j := i) (r := 0) (v := v0) (by decide)
    rw [Nat.add_zero] at this
    rw [this, if_pos rfl]
    have hl := el_len (sz := 15) (L := L) h.len hi
    generalize el 15 L i = M at *
    match M, hl with
    | [x0, x1, x2, x3, x4, x5, x6, x7, x8, x9, x10, x11, x12, x13, x14], _ => rfl
theorem fill15_other (w : World) (g i : Nat) (v0 v1 v2 v3 v4 v5 v6 v7 v8 v9 v10 v11 v12 v13 v14 : Value) : (((((((((((((((w.setCell ⟨g, i * 15, none⟩ v0).setCell ⟨g, i * 15 + 1, none⟩ v1).setCell ⟨g, i * 15 + 2, none⟩ v2).setCell ⟨g, i * 15 + 3, none⟩ v3).setCell ⟨g, i * 15 + 4, none⟩ v4).setCell ⟨g, i * 15 + 5, none⟩ v5).setCell ⟨g, i * 15 + 6, none⟩ v6).setCell ⟨g, i * 15 + 7, none⟩ v7).setCell ⟨g, i * 15 + 8, none⟩ v8).setCell ⟨g, i * 15 + 9, none⟩ v9).setCell ⟨g, i * 15 + 10, none⟩ v10).setCell ⟨g, i * 15 + 11, none⟩ v11).setCell ⟨g, i * 15 + 12, none⟩ v12).setCell ⟨g, i * 15 + 13, none⟩ v13).setCell ⟨g, i * 15 + 14, none⟩ v14).heap.size = w.heap.size ∧ ((((((((((((((((w.setCell ⟨g, i * 15, none⟩ v0).setCell ⟨g, i * 15 + 1, none⟩ v1).setCell ⟨g, i * 15 + 2, none⟩ v2).setCell ⟨g, i * 15 + 3, none⟩ v3).setCell ⟨g, i * 15 + 4, none⟩ v4).setCell ⟨g, i * 15 + 5, none⟩ v5).setCell ⟨g, i * 15 + 6, none⟩ v6).setCell ⟨g, i * 15 + 7, none⟩ v7).setCell ⟨g, i * 15 + 8, none⟩ v8).setCell ⟨g, i * 15 + 9, none⟩ v9).setCell ⟨g, i * 15 + 10, none⟩ v10).setCell ⟨g, i * 15 + 11, none⟩ v11).setCell ⟨g, i * 15 + 12, none⟩ v12).setCell ⟨g, i * 15 + 13, none⟩ v13).setCell ⟨g, i * 15 + 14, none⟩ v14).os = w.os ∧ (((((((((((((((w.setCell ⟨g, i * 15, none⟩ v0).setCell ⟨g, i * 15 + 1, none⟩ v1).setCell ⟨g, i * 15 + 2, none⟩ v2).setCell ⟨g, i * 15 + 3, none⟩ v3).setCell ⟨g, i * 15 + 4, none⟩ v4).setCell ⟨g, i * 15 + 5, none⟩ v5).setCell ⟨g, i * 15 + 6, none⟩ v6).setCell ⟨g, i * 15 + 7, none⟩ v7).setCell ⟨g, i * 15 + 8, none⟩ v8).setCell ⟨g, i * 15 + 9, none⟩ v9).setCell ⟨g, i * 15 + 10, none⟩ v10).setCell ⟨g, i * 15 + 11, none⟩ v11).setCell ⟨g, i * 15 + 12, none⟩ v12).setCell ⟨g, i * 15 + 13, none⟩ v13).setCell ⟨g, i * 15 + 14, none⟩ v14).tape = w.tape ∧ (((((((((((((((w.setCell ⟨g, i * 15, none⟩ v0).setCell ⟨g, i * 15 + 1, none⟩ v1).setCell ⟨g, i * 15 + 2, none⟩ v2).setCell ⟨g, i * 15 + 3, none⟩ v3).setCell ⟨g, i * 15 + 4, none⟩ v4).setCell ⟨g, i * 15 + 5, none⟩ v5).setCell ⟨g, i * 15 + 6, none⟩ v6).setCell ⟨g, i * 15 + 7, none⟩ v7).setCell ⟨g, i * 15 + 8, none⟩ v8).setCell ⟨g, i * 15 + 9, none⟩ v9).setCell ⟨g, i * 15 + 10, none⟩ v10).setCell ⟨g, i * 15 + 11, none⟩ v11).setCell ⟨g, i * 15 + 12, none⟩ v12).setCell ⟨g, i * 15 + 13, none⟩ v13).setCell ⟨g, i * 15 + 14, none⟩ v14).output = w.output) ∧ ∀ k, k ≠ g → (((((((((((((((w.setCell ⟨g, i * 15, none⟩ v0).setCell ⟨g, i * 15 + 1, none⟩ v1).setCell ⟨g, i * 15 + 2, none⟩ v2).setCell ⟨g, i * 15 + 3, none⟩ v3).setCell ⟨g, i * 15 + 4, none⟩ v4).setCell ⟨g, i * 15 + 5, none⟩ v5).setCell ⟨g, i * 15 + 6, none⟩ v6).setCell ⟨g, i * 15 + 7, none⟩ v7).setCell ⟨g, i * 15 + 8, none⟩ v8).setCell ⟨g, i * 15 + 9, none⟩ v9).setCell ⟨g, i * 15 + 10, none⟩ v10).setCell ⟨g, i * 15 + 11, none⟩ v11).setCell ⟨g, i * 15 + 12, none⟩ v12).setCell ⟨g, i * 15 + 13, none⟩ v13).setCell ⟨g, i * 15 + 14, none⟩ v14).heap[k]? = w.heap[k]? := by
  have hb : Below 0 w (((((((((((((((w.setCell ⟨g, i * 15, none⟩ v0).setCell ⟨g, i * 15 + 1, none⟩ v1).setCell ⟨g, i * 15 + 2, none⟩ v2).setCell ⟨g, i * 15 + 3, none⟩ v3).setCell ⟨g, i * 15 + 4, none⟩ v4).setCell ⟨g, i * 15 + 5, none⟩ v5).setCell ⟨g, i * 15 + 6, none⟩ v6).setCell ⟨g, i * 15 + 7, none⟩ v7).setCell ⟨g, i * 15 + 8, none⟩ v8).setCell ⟨g, i * 15 + 9, none⟩ v9).setCell ⟨g, i * 15 + 10, none⟩ v10).setCell ⟨g, i * 15 + 11, none⟩ v11).setCell ⟨g, i * 15 + 12, none⟩ v12).setCell ⟨g, i * 15 + 13, none⟩ v13).setCell ⟨g, i * 15 + 14, none⟩ v14) := (below_set (below_set (below_set (below_set (below_set (below_set (below_set (below_set (below_set (below_set (below_set (below_set (below_set (below_set (below_set (Below.refl 0 w) (Nat.zero_le _)) (Nat.zero_le _)) (Nat.zero_le _)) (Nat.zero_le _)) (Nat.zero_le _)) (Nat.zero_le _)) (Nat.zero_le _)) (Nat.zero_le _)) (Nat.zero_le _)) (Nat.zero_le _)) (Nat.zero_le _)) (Nat.zero_le _)) (Nat.zero_le _)) (Nat.zero_le _)) (Nat.zero_le _))
  exact ⟨by simp only [setCell_size], ⟨hb.os, hb.tape, hb.output⟩, fun k hk => by simp only [setCell_other _ _ _ _ _ hk]⟩
/-- A state in memory of its own. -/
def sO (lo hi : Nat) (w : World) (cs : List Value) (x : StX) : Prop := ∃ (a1 : Option Addr) (c1 : Nat) (L1 : List Value) (b1 : Nat → Nat) (a2 : Option Addr) (c2 : Nat) (L2 : List Value) (b2 : Nat → Nat), cs = [.int .i64 x.tk, .slice a1 x.ps.length c1, .slice a2 x.qs.length c2] ∧ Row w 43 6 a1 x.ps.length c1 L1 ∧ Row w 49 15 a2 x.qs.length c2 L2 ∧
  (∀ k, blk a1 = some k → lo ≤ k ∧ k < b1 0 ∧ blk a2 ≠ some k) ∧ (∀ k, blk a2 = some k → lo ≤ k ∧ k < b1 0) ∧ lo ≤ b1 0 ∧ (∀ i, i < x.ps.length → b1 i ≤ b1 (i + 1)) ∧ b1 x.ps.length ≤ b2 0 ∧ (∀ i, i < x.qs.length → b2 i ≤ b2 (i + 1)) ∧ b2 x.qs.length ≤ hi ∧ x.ps.length ≤ BIG ∧ x.qs.length ≤ BIG ∧
  (∀ i, i < x.ps.length → pO (b1 i) (b1 (i + 1)) w (el 6 L1 i) (x.ps.getD i default)) ∧ (∀ i, i < x.qs.length → rO (b2 i) (b2 (i + 1)) w (el 15 L2 i) (x.qs.getD i default))
theorem sO.rd {lo hi : Nat} {w : World} {cs : List Value} {x : StX} (h : sO lo hi w cs x) : sE w cs x := by
  obtain ⟨a1, c1, L1, b1, a2, c2, L2, b2, e, r1, r2, n1, n2, l1, m1, l2, m2, l3, B1, B2, h1, h2⟩ := h
  have hm1 := mono_le _ m1
  have hm2 := mono_le _ m2
  have k1 : OwD 43 6 pO lo (b1 x.ps.length) w (.slice a1 x.ps.length c1) x.ps := ⟨a1, c1, L1, b1, rfl, r1, fun k hk => ⟨(n1 k hk).1, (n1 k hk).2.1⟩, l1, m1, Nat.le_refl _, B1, h1⟩
  have k2 : OwD 49 15 rO lo hi w (.slice a2 x.qs.length c2) x.qs := ⟨a2, c2, L2, b2, rfl, r2, fun k hk => ⟨(n2 k hk).1, by have := (n2 k hk).2; have := (hm1 x.ps.length (Nat.le_refl _)).1; omega⟩, by have := (hm1 x.ps.length (Nat.le_refl _)).1; omega, m2, l3, B2, h2⟩
  exact ⟨_, _, e, k1.rd fun _ _ _ _ h => h.rd, k2.rd fun _ _ _ _ h => h.rd⟩
def StFew (x : StX) : Prop := x.ps.length ≤ 1048576 ∧ x.qs.length ≤ 1048576 ∧ (∀ j, PtFew (x.ps.getD j default)) ∧ ∀ j, PrFew (x.qs.getD j default)
def OfOut (w : World) (x : StX) (e : Ending) (w' : World) : Prop := ∃ cs, e = .returned (.agg cs.toArray) ∧ sO w.heap.size w'.heap.size w' cs x ∧ Below w.heap.size w w'
theorem pO.low {lo lo' hi : Nat} {w : World} {cs : List Value} {x : PtX} (h : pO lo hi w cs x) (hl : lo' ≤ lo) : pO lo' hi w cs x := by
  obtain ⟨v1, v4, v5, m1, m2, e, hm1, hm2, hm3, h1, h2, h3⟩ := h
  exact ⟨v1, v4, v5, m1, m2, e, by omega, hm2, hm3, h1.wide hl (Nat.le_refl _), h2, h3⟩
theorem rO.low {lo lo' hi : Nat} {w : World} {cs : List Value} {x : PrX} (h : rO lo hi w cs x) (hl : lo' ≤ lo) : rO lo' hi w cs x := by
  obtain ⟨v, e, h1⟩ := h
  exact ⟨v, e, h1.wide hl (Nat.le_refl _)⟩
def zpL : List Value := [.int .i64 0, .slice none 0 0, .int .i64 0, .int .i64 0, .slice none 0 0, .slice none 0 0]
def zrL : List Value := [.int .i64 0, .int .i64 0, .int .i64 0, .int .i64 0, .int .i64 0, .int .i64 0, .int .i64 0, .int .i64 0, .int .i64 0, .int .i64 0, .int .i64 0, .int .i64 0, .bool false, .int .i64 0, .slice none 0 0]
theorem pO.zero {lo hi : Nat} (h : lo ≤ hi) (w : World) : pO lo hi w zpL pt0 := ⟨_, _, _, lo, lo, rfl, Nat.le_refl _, Nat.le_refl _, h, OwD.nil (Nat.le_refl _), OwD.nil (Nat.le_refl _), OwD.nil h⟩
theorem rO.zero {lo hi : Nat} (h : lo ≤ hi) (w : World) : rO lo hi w zrL pr0 := ⟨_, rfl, OwD.nil h⟩
end Go.Proofs.Ytjbmljheepomnaa
