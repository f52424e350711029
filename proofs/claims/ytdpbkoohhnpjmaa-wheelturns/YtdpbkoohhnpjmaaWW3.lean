/- compare, things.Less, things.Len, things.Swap. -/
import Derived.Test.YtdpbkoohhnpjmaaWW2
import Derived.Sort.Grow
namespace Go.Proofs.Ytdpbkoohhnpjmaa
open Go.RowKit Go.Sort

theorem grow_below (w : World) (n : Nat) (os : Array Obj) : Below w.heap.size w (grow (w.drewN n) os) :=
  ⟨rfl, rfl, rfl, by simp [grow, World.drewN], fun k hk => by
    unfold grow World.drewN
    exact Array.getElem?_append_left hk⟩

set_option maxRecDepth 100000 in
set_option maxHeartbeats 1000000 in
theorem compare_any (x y : Th) (W : World) : Calls Try.prog 29 #[.agg #[.int .i64 x.1, .int .i64 x.2], .agg #[.int .i64 y.1, .int .i64 y.2]] W fun e w' => e = .returned (.int .i64 (cfT x y)) ∧ ∃ q os, w' = grow (W.drewN q) os := by
  obtain ⟨x1, x2⟩ := x
  obtain ⟨y1, y2⟩ := y
  have h1 := fun w => compareI_any x1 y1 w
  have h2 := fun w => compareN_any x2 y2 w
  have ho := fun g w h0 h1 => or_any (cmpI x1 y1) (cmpI x2 y2) g w h0 h1
  have eC : (if cmpI x1 y1 = 0 then cmpI x2 y2 else cmpI x1 y1) = cfT (x1, x2) (y1, y2) := rfl
  rw [eC] at ho
  generalize cfT (x1, x2) (y1, y2) = R at ho ⊢
  clear eC
  generalize cmpI x1 y1 = c1 at h1 ho
  generalize cmpI x2 y2 = c2 at h2 ho
  go_enter Try.func29, Try.ntmps29
  go_upto_region 1 with fail
  obtain ⟨w0, hw0⟩ : ∃ w0, Hid ((W.alloc (.cells #[.int .i64 x1, .int .i64 x2] 60)).alloc (.cells #[.int .i64 y1, .int .i64 y2] 60) = w0) := ⟨_, rfl⟩
  have k0 : w0.cell? ⟨W.heap.size, 0, none⟩ = some (.int .i64 x1) := by rw [← hw0.out]; simp
  have k1 : w0.cell? ⟨W.heap.size, 1, none⟩ = some (.int .i64 x2) := by rw [← hw0.out]; simp
  have k2 : w0.cell? ⟨W.heap.size + 1, 0, none⟩ = some (.int .i64 y1) := by rw [← hw0.out]; simp
  have k3 : w0.cell? ⟨W.heap.size + 1, 1, none⟩ = some (.int .i64 y2) := by rw [← hw0.out]; simp
  have HW : Hid (∃ os, w0 = grow W os) := hd ⟨_, by rw [← hw0.out, alloc_eq_grow, alloc_eq_grow, grow_grow]⟩
  rw [hw0.out]
  clear hw0
  go_region_held3 (fun w' => w'.cell? ⟨W.heap.size, 0, none⟩ = some (.int .i64 x1) ∧ w'.cell? ⟨W.heap.size, 1, none⟩ = some (.int .i64 x2) ∧ w'.cell? ⟨W.heap.size + 1, 0, none⟩ = some (.int .i64 y1) ∧ w'.cell? ⟨W.heap.size + 1, 1, none⟩ = some (.int .i64 y2)) (go_keep)
    (first
      | (go_at_call 37; refine (h1 _).mono ?_; rintro e1 w1 ⟨rfl, rfl⟩)
      | (go_at_call 38; refine (h2 _).mono ?_; rintro e1 w1 ⟨rfl, rfl⟩)
      | (go_at_call 36; refine (ho _ _ (by simp) (by simp)).mono ?_; rintro e1 w1 ⟨rfl, rfl⟩))
  go_wp2_with fail
  go_ret
  obtain ⟨os, rfl⟩ := HW.out
  exact ⟨rfl, 1, os ++ #[_], by rw [alloc_eq_grow]; exact grow_grow W.drew os _⟩

theorem tlen_any {a : Option Addr} {n c : Nat} {w : World} : Calls Try.prog 78 #[.slice a n c] w fun e w' => e = .returned (.int .i64 n) ∧ w' = w := by
  go_enter Try.func78, Try.ntmps78
  go_wp2
  go_ret
  exact ⟨rfl, rfl⟩

set_option maxRecDepth 100000 in
set_option maxHeartbeats 1000000 in
theorem less_any {a : Option Addr} {n c i j : Nat} {O : List Th} {w : World} (h : Row w 60 2 a n c (wC O)) (hi : i < n) (hj : j < n) (B : Bool) (hB : B = decide (ltT (tAt O i) (tAt O j))) :
    Calls Try.prog 79 #[.slice a n c, .int .i64 (i : Int), .int .i64 (j : Int)] w fun e w' => e = .returned (.bool B) ∧ Below w.heap.size w w' := by
  have hl := h.len
  rw [wC_len] at hl
  obtain ⟨g, rfl, c0, c1⟩ := row_t h i (by omega)
  obtain ⟨g', e, d0, d1⟩ := row_t h j (by omega)
  cases e
  have hlt := h.lt g rfl
  rw [← cfT_lt] at hB
  have hc := fun W => compare_any (tAt O i) (tAt O j) W
  generalize tAt O i = x at *
  generalize tAt O j = y at *
  obtain ⟨x1, x2⟩ := x
  obtain ⟨y1, y2⟩ := y
  simp only at c0 c1 d0 d1 hc
  have hi' : (i : Int) < (n : Int) := by omega
  have hj' : (j : Int) < (n : Int) := by omega
  generalize cfT (x1, x2) (y1, y2) = R at *
  have hB' : decide (R < 0) = B := hB.symm
  clear h hl hB
  go_enter Try.func79, Try.ntmps79
  go_wp2_with fail
  go_region_held3 (fun w' => w'.cell? ⟨g, i * 2, none⟩ = some (.int .i64 x1) ∧ w'.cell? ⟨g, i * 2 + 1, none⟩ = some (.int .i64 x2) ∧ w'.cell? ⟨g, j * 2, none⟩ = some (.int .i64 y1) ∧ w'.cell? ⟨g, j * 2 + 1, none⟩ = some (.int .i64 y2)) (go_keep)
    (first
      | (go_at_call 29; refine (hc _).mono ?_; rintro e1 w1 ⟨rfl, q, os, hq⟩
         have b1 : Below w.heap.size w w1 := by rw [hq]; exact Below.trans (Below.refl _ w).drew (by exact grow_below w.drew q os)
         obtain ⟨k0, k1, k2, k3⟩ : w1.cell? ⟨g, i * 2, none⟩ = some (.int .i64 x1) ∧ w1.cell? ⟨g, i * 2 + 1, none⟩ = some (.int .i64 x2) ∧ w1.cell? ⟨g, j * 2, none⟩ = some (.int .i64 y1) ∧ w1.cell? ⟨g, j * 2 + 1, none⟩ = some (.int .i64 y2) := ⟨by rw [b1.cell (p := ⟨g, i * 2, none⟩) hlt]; exact c0, by rw [b1.cell (p := ⟨g, i * 2 + 1, none⟩) hlt]; exact c1, by rw [b1.cell (p := ⟨g, j * 2, none⟩) hlt]; exact d0, by rw [b1.cell (p := ⟨g, j * 2 + 1, none⟩) hlt]; exact d1⟩
         clear hq))
  go_wp2_with fail
  go_ret
  exact ⟨rfl, b1⟩

theorem cell_setCell_off (W : World) (g : Nat) {p q : Nat} (h : q ≠ p) (u : Value) : (W.setCell ⟨g, p, none⟩ u).cell? ⟨g, q, none⟩ = W.cell? ⟨g, q, none⟩ := by
  apply World.cell?_setCell_other
  intro e
  injection e with _ e2 _
  exact h e2.symm
theorem below_setTwo {w : World} {S : Nat → Prop} {g : Nat} (hg : S g) (p q r s : Nat) (u1 u2 u3 u4 : Value) : Mod S w ((((w.drew.setCell ⟨g, p, none⟩ u1).setCell ⟨g, q, none⟩ u2).setCell ⟨g, r, none⟩ u3).setCell ⟨g, s, none⟩ u4) :=
  (((((Mod.of_below S ((Below.refl _ w).drew)).setCell (p := ⟨g, p, none⟩) (.inl hg) u1).setCell (p := ⟨g, q, none⟩) (.inl hg) u2).setCell (p := ⟨g, r, none⟩) (.inl hg) u3).setCell (p := ⟨g, s, none⟩) (.inl hg) u4)

set_option maxRecDepth 100000 in
set_option maxHeartbeats 400000 in
theorem swap_any {a : Option Addr} {n c i j : Nat} {O : List Th} {w : World} (h : Row w 60 2 a n c (wC O)) (hi : i < n) (hj : j < n) :
    Calls Try.prog 80 #[.slice a n c, .int .i64 (i : Int), .int .i64 (j : Int)] w fun e w' => e = .returned (.tuple #[]) ∧ Row w' 60 2 a n c (wC (swL O i j)) ∧ Mod (fun k => blk a = some k) w w' := by
  have hl := h.len
  rw [wC_len] at hl
  obtain ⟨g, rfl, c0, c1⟩ := row_t h i (by omega)
  obtain ⟨g', e, d0, d1⟩ := row_t h j (by omega)
  cases e
  have f0 := h.free (i * 2) g rfl
  have f1 := h.free (i * 2 + 1) g rfl
  have f2 := h.free (j * 2) g rfl
  have f3 := h.free (j * 2 + 1) g rfl
  have HE : Hid (Row ((((w.drew.setCell ⟨g, i * 2, none⟩ (.int .i64 (tAt O j).1)).setCell ⟨g, i * 2 + 1, none⟩ (.int .i64 (tAt O j).2)).setCell ⟨g, j * 2, none⟩ (.int .i64 (tAt O i).1)).setCell ⟨g, j * 2 + 1, none⟩ (.int .i64 (tAt O i).2)) 60 2 (some ⟨g, 0, none⟩) n c (wC (swL O i j))) := hd
    (((h.below ((Below.refl _ w).drew)).putT i (tAt O j)).putT j (tAt O i))
  have hi' : (i : Int) < (n : Int) := by omega
  have hj' : (j : Int) < (n : Int) := by omega
  clear h hl
  by_cases hij : i = j
  · subst hij
    clear d0 d1 f2 f3 hj hj'
    generalize tAt O i = x at *
    obtain ⟨x1, x2⟩ := x
    simp only at c0 c1 HE
    go_enter Try.func80, Try.ntmps80
    go_wp2_with fail
    go_region
    go_end0
    exact ⟨rfl, HE.out, below_setTwo (S := fun k => blk (some ⟨g, 0, none⟩) = some k) rfl _ _ _ _ _ _ _ _⟩
  · generalize tAt O i = x at *
    generalize tAt O j = y at *
    obtain ⟨x1, x2⟩ := x
    obtain ⟨y1, y2⟩ := y
    simp only at c0 c1 d0 d1 HE
    have q0 : ∀ (W : World) (u : Value), (W.setCell ⟨g, i * 2, none⟩ u).cell? ⟨g, j * 2, none⟩ = W.cell? ⟨g, j * 2, none⟩ := fun W u => cell_setCell_off W g (by omega) u
    have q1 : ∀ (W : World) (u : Value), (W.setCell ⟨g, i * 2 + 1, none⟩ u).cell? ⟨g, j * 2, none⟩ = W.cell? ⟨g, j * 2, none⟩ := fun W u => cell_setCell_off W g (by omega) u
    have q2 : ∀ (W : World) (u : Value), (W.setCell ⟨g, i * 2, none⟩ u).cell? ⟨g, j * 2 + 1, none⟩ = W.cell? ⟨g, j * 2 + 1, none⟩ := fun W u => cell_setCell_off W g (by omega) u
    have q3 : ∀ (W : World) (u : Value), (W.setCell ⟨g, i * 2 + 1, none⟩ u).cell? ⟨g, j * 2 + 1, none⟩ = W.cell? ⟨g, j * 2 + 1, none⟩ := fun W u => cell_setCell_off W g (by omega) u
    clear hij
    go_enter Try.func80, Try.ntmps80
    go_wp2_with fail
    go_region
    go_end0
    exact ⟨rfl, HE.out, below_setTwo (S := fun k => blk (some ⟨g, 0, none⟩) = some k) rfl _ _ _ _ _ _ _ _⟩
end Go.Proofs.Ytdpbkoohhnpjmaa
