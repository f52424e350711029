/- Eight bytes as an array: split, joined; written. -/
import Derived.Test.YtnkanaccacephaaSW1
namespace Go.Proofs.Ytnkanaccacephaa
open Go.RowKit

theorem numB_take (k v : Nat) (hk : k ≤ 8) : (numB 8 v).take k = numB k v := by
  unfold numB
  rw [← List.map_take, List.take_range, Nat.min_eq_left hk]
theorem numB_8 (v : Nat) : numB 8 v = [v / 2 ^ 0 % 256, v / 2 ^ 8 % 256, v / 2 ^ 16 % 256, v / 2 ^ 24 % 256, v / 2 ^ 32 % 256, v / 2 ^ 40 % 256, v / 2 ^ 48 % 256, v / 2 ^ 56 % 256] := rfl

/-- The first i of eight bytes; the others are nought. -/
def u8z (y : Nat → Nat) (i j : Nat) : Value := .int .u8 ((if j < i then y j else 0 : Nat) : Int)
def arr8 (y : Nat → Nat) (i : Nat) : Array Value := #[u8z y i 0, u8z y i 1, u8z y i 2, u8z y i 3, u8z y i 4, u8z y i 5, u8z y i 6, u8z y i 7]
theorem arr8_set (y : Nat → Nat) (i : Nat) (hi : i < 8) : (arr8 y i).setIfInBounds i (.int .u8 (y i : Int)) = arr8 y (i + 1) := by
  have hc : i = 0 ∨ i = 1 ∨ i = 2 ∨ i = 3 ∨ i = 4 ∨ i = 5 ∨ i = 6 ∨ i = 7 := by omega
  rcases hc with rfl | rfl | rfl | rfl | rfl | rfl | rfl | rfl <;> simp [arr8, u8z]
theorem arr8_zero (y : Nat → Nat) : arr8 y 0 = #[.int .u8 0, .int .u8 0, .int .u8 0, .int .u8 0, .int .u8 0, .int .u8 0, .int .u8 0, .int .u8 0] := by simp [arr8, u8z]
theorem arr8_full (y : Nat → Nat) : arr8 y 8 = #[.int .u8 (y 0 : Int), .int .u8 (y 1 : Int), .int .u8 (y 2 : Int), .int .u8 (y 3 : Int), .int .u8 (y 4 : Int), .int .u8 (y 5 : Int), .int .u8 (y 6 : Int), .int .u8 (y 7 : Int)] := by simp [arr8, u8z]
theorem arr8_size (y : Nat → Nat) (i : Nat) : (arr8 y i).size = 8 := rfl

/-- Eight cells of a block, written over. -/
def put8 (W : World) (G : Nat) (v0 v1 v2 v3 v4 v5 v6 v7 : Value) : World := (((((((W.setCell ⟨G, 0, none⟩ v0).setCell ⟨G, 1, none⟩ v1).setCell ⟨G, 2, none⟩ v2).setCell ⟨G, 3, none⟩ v3).setCell ⟨G, 4, none⟩ v4).setCell ⟨G, 5, none⟩ v5).setCell ⟨G, 6, none⟩ v6).setCell ⟨G, 7, none⟩ v7
theorem put8_out {W : World} {G : Nat} {T : TypeId} {x0 x1 x2 x3 x4 x5 x6 x7 : Value} (h : W.heap[G]? = some (.cells #[x0, x1, x2, x3, x4, x5, x6, x7] T (0, 0))) (v0 v1 v2 v3 v4 v5 v6 v7 : Value) :
    (put8 W G v0 v1 v2 v3 v4 v5 v6 v7).heap[G]? = some (.cells #[v0, v1, v2, v3, v4, v5, v6, v7] T (0, 0)) ∧ Mod (fun k => k = G) W (put8 W G v0 v1 v2 v3 v4 v5 v6 v7) := by
  refine ⟨?_, ((((((((Mod.refl (fun k => k = G) W).setCell (.inl rfl) _).setCell (.inl rfl) _).setCell (.inl rfl) _).setCell (.inl rfl) _).setCell (.inl rfl) _).setCell (.inl rfl) _).setCell (.inl rfl) _).setCell (.inl rfl) _⟩
  have h0 := heap_setCell_same W G 0 _ _ v0 h
  simp only [List.setIfInBounds_toArray, List.set_cons_zero] at h0
  have h1 := heap_setCell_same _ G 1 _ _ v1 h0
  simp only [List.setIfInBounds_toArray, List.set_cons_zero, List.set_cons_succ] at h1
  have h2 := heap_setCell_same _ G 2 _ _ v2 h1
  simp only [List.setIfInBounds_toArray, List.set_cons_zero, List.set_cons_succ] at h2
  have h3 := heap_setCell_same _ G 3 _ _ v3 h2
  simp only [List.setIfInBounds_toArray, List.set_cons_zero, List.set_cons_succ] at h3
  have h4 := heap_setCell_same _ G 4 _ _ v4 h3
  simp only [List.setIfInBounds_toArray, List.set_cons_zero, List.set_cons_succ] at h4
  have h5 := heap_setCell_same _ G 5 _ _ v5 h4
  simp only [List.setIfInBounds_toArray, List.set_cons_zero, List.set_cons_succ] at h5
  have h6 := heap_setCell_same _ G 6 _ _ v6 h5
  simp only [List.setIfInBounds_toArray, List.set_cons_zero, List.set_cons_succ] at h6
  have h7 := heap_setCell_same _ G 7 _ _ v7 h6
  simp only [List.setIfInBounds_toArray, List.set_cons_zero, List.set_cons_succ] at h7
  exact h7

def z8 : Array Value := #[.int .u8 0, .int .u8 0, .int .u8 0, .int .u8 0, .int .u8 0, .int .u8 0, .int .u8 0, .int .u8 0]

set_option maxRecDepth 100000 in
set_option maxHeartbeats 2000000 in
theorem split_any (v : Nat) (w : World) :
    Calls Try.prog 30 #[.int .u64 (v : Int)] w fun e w' => e = .returned (.agg #[.int .u8 ((v / 2 ^ 0 % 256 : Nat) : Int), .int .u8 ((v / 2 ^ 8 % 256 : Nat) : Int), .int .u8 ((v / 2 ^ 16 % 256 : Nat) : Int), .int .u8 ((v / 2 ^ 24 % 256 : Nat) : Int), .int .u8 ((v / 2 ^ 32 % 256 : Nat) : Int), .int .u8 ((v / 2 ^ 40 % 256 : Nat) : Int), .int .u8 ((v / 2 ^ 48 % 256 : Nat) : Int), .int .u8 ((v / 2 ^ 56 % 256 : Nat) : Int)]) ∧ Below w.heap.size w w' := by
  obtain ⟨y, hy⟩ : ∃ y : Nat → Nat, Hid (y = fun j => v / 2 ^ (8 * j) % 256) := ⟨_, hd rfl⟩
  have e0 : v / 2 ^ 0 % 256 = y 0 := by rw [hy.out]
  have e1 : v / 2 ^ 8 % 256 = y 1 := by rw [hy.out]
  have e2 : v / 2 ^ 16 % 256 = y 2 := by rw [hy.out]
  have e3 : v / 2 ^ 24 % 256 = y 3 := by rw [hy.out]
  have e4 : v / 2 ^ 32 % 256 = y 4 := by rw [hy.out]
  have e5 : v / 2 ^ 40 % 256 = y 5 := by rw [hy.out]
  have e6 : v / 2 ^ 48 % 256 = y 6 := by rw [hy.out]
  have e7 : v / 2 ^ 56 % 256 = y 7 := by rw [hy.out]
  rw [e0, e1, e2, e3, e4, e5, e6, e7]
  clear e0 e1 e2 e3 e4 e5 e6 e7
  go_enter Try.func30, Try.ntmps30
  go_upto_region 2 with fail
  obtain ⟨w1, hw1⟩ : ∃ W, Hid ((w.alloc (.cells z8 56)).alloc (.cells z8 56) = W) := ⟨_, rfl⟩
  have hw1' := hw1.out
  unfold z8 at hw1'
  rw [hw1']
  clear hw1'
  have HB1 : Hid (Below w.heap.size w w1) := hd (by rw [← hw1.out]; exact ((Below.refl _ w).alloc (Nat.le_refl _) _).alloc (by simp) _)
  have HG0 : Hid (w1.heap[w.heap.size]? = some (.cells z8 56 (0, 0))) := hd (by
    rw [← hw1.out, (below_al _ _).block _ (by simp)]
    exact heap_alloc_new w _)
  have HG1 : Hid (w1.heap[w.heap.size + 1]? = some (.cells (arr8 y 0) 56 (0, 0))) := hd (by
    rw [← hw1.out, arr8_zero, show w.heap.size + 1 = (w.alloc (.cells z8 56)).heap.size by simp]
    exact heap_alloc_new _ _)
  obtain ⟨G, hG⟩ : ∃ G, Hid (w.heap.size = G) := ⟨_, rfl⟩
  rw [hG.out] at HG0 HG1 ⊢
  clear hw1
  go_wp2_with fail
  go_loopg [4, 5, 6, 7, 8, 9, 10, 11, 12, 13, 14, 15] 8 (fun g v4 v5 v6 v7 v8 v9 v10 v11 v12 v13 v14 v15 wr => ∃ i : Nat, i + g = 8 ∧ v5 = .int .i64 (i : Int) ∧ Hid (wr.heap[G + 1]? = some (.cells (arr8 y i) 56 (0, 0)) ∧ wr.heap[G]? = some (.cells z8 56 (0, 0)) ∧ Below w.heap.size w wr))
  case atStart => exact ⟨0, by omega, by go_num, hd ⟨HG1.out, HG0.out, HB1.out⟩⟩
  case round =>
    obtain ⟨i, hi, rfl, HR⟩ := hrel
    by_cases h0 : gk = 0
    · subst h0
      obtain rfl : i = 8 := by omega
      obtain ⟨g1, g0, hb⟩ := HR.out
      rw [arr8_full] at g1
      clear HR HG0 HG1
      have k0 := cell_of_row wr (G + 1) 0 _ _ _ g1
      have k1 := cell_of_row wr (G + 1) 1 _ _ _ g1
      have k2 := cell_of_row wr (G + 1) 2 _ _ _ g1
      have k3 := cell_of_row wr (G + 1) 3 _ _ _ g1
      have k4 := cell_of_row wr (G + 1) 4 _ _ _ g1
      have k5 := cell_of_row wr (G + 1) 5 _ _ _ g1
      have k6 := cell_of_row wr (G + 1) 6 _ _ _ g1
      have k7 := cell_of_row wr (G + 1) 7 _ _ _ g1
      have a0 := cell_of_row wr G 0 _ _ _ g0
      have a1 := cell_of_row wr G 1 _ _ _ g0
      have a2 := cell_of_row wr G 2 _ _ _ g0
      have a3 := cell_of_row wr G 3 _ _ _ g0
      have a4 := cell_of_row wr G 4 _ _ _ g0
      have a5 := cell_of_row wr G 5 _ _ _ g0
      have a6 := cell_of_row wr G 6 _ _ _ g0
      have a7 := cell_of_row wr G 7 _ _ _ g0
      simp [z8] at k0 k1 k2 k3 k4 k5 k6 k7 a0 a1 a2 a3 a4 a5 a6 a7
      have fz : ∀ i, wr.frozen? ⟨G, i, none⟩ = false := fun i => by simp [World.frozen?, g0]
      replace hb := hd hb
      have HP := hd (put8_out g0 (.int .u8 (y 0 : Int)) (.int .u8 (y 1 : Int)) (.int .u8 (y 2 : Int)) (.int .u8 (y 3 : Int)) (.int .u8 (y 4 : Int)) (.int .u8 (y 5 : Int)) (.int .u8 (y 6 : Int)) (.int .u8 (y 7 : Int)))
      clear g0 g1 hy hi
      go_wp2_with fail
      have HP2 := HP.out
      unfold put8 at HP2
      obtain ⟨e2, e3⟩ := HP2
      clear HP
      generalize (((((((wr.setCell ⟨G, 0, none⟩ (.int .u8 (y 0 : Int))).setCell ⟨G, 1, none⟩ (.int .u8 (y 1 : Int))).setCell ⟨G, 2, none⟩ (.int .u8 (y 2 : Int))).setCell ⟨G, 3, none⟩ (.int .u8 (y 3 : Int))).setCell ⟨G, 4, none⟩ (.int .u8 (y 4 : Int))).setCell ⟨G, 5, none⟩ (.int .u8 (y 5 : Int))).setCell ⟨G, 6, none⟩ (.int .u8 (y 6 : Int))).setCell ⟨G, 7, none⟩ (.int .u8 (y 7 : Int)) = WZ at *
      have d0 := cell_of_row WZ G 0 _ _ _ e2
      have d1 := cell_of_row WZ G 1 _ _ _ e2
      have d2 := cell_of_row WZ G 2 _ _ _ e2
      have d3 := cell_of_row WZ G 3 _ _ _ e2
      have d4 := cell_of_row WZ G 4 _ _ _ e2
      have d5 := cell_of_row WZ G 5 _ _ _ e2
      have d6 := cell_of_row WZ G 6 _ _ _ e2
      have d7 := cell_of_row WZ G 7 _ _ _ e2
      simp at d0 d1 d2 d3 d4 d5 d6 d7
      refine bodyPost_ret (v := .agg #[.int .u8 (y 0 : Int), .int .u8 (y 1 : Int), .int .u8 (y 2 : Int), .int .u8 (y 3 : Int), .int .u8 (y 4 : Int), .int .u8 (y 5 : Int), .int .u8 (y 6 : Int), .int .u8 (y 7 : Int)]) ?_ rfl ⟨rfl, ?_⟩
      · simp [results, Try.results30, go_sem, d0, d1, d2, d3, d4, d5, d6, d7]
      · exact hb.out.trans (e3.below (by have := hb.out.size; omega) (fun k _ hk => by have := hG.out; omega))
    · have hlt : (i : Int) < 8 := by omega
      obtain ⟨g1, g0, hb⟩ := HR.out
      have kc := cell_of_row wr (G + 1) i _ _ _ g1
      have hu : ∃ u, wr.cell? ⟨G + 1, i, none⟩ = some u := by
        rw [kc]
        exact ⟨_, Array.getElem?_eq_getElem (show i < (arr8 y i).size by rw [arr8_size]; omega)⟩
      obtain ⟨u, hu⟩ := hu
      have fz : wr.frozen? ⟨G + 1, i, none⟩ = false := by simp [World.frozen?, g1]
      have hyi : y i = v / 2 ^ (8 * i) % 256 := by rw [hy.out]
      have ey : (v : Int) / 2 ^ (8 * i) % 256 = ((y i : Nat) : Int) := by rw [hyi]; simp
      have HN : Hid ((wr.setCell ⟨G + 1, i, none⟩ (.int .u8 (y i : Int))).heap[G + 1]? = some (.cells (arr8 y (i + 1)) 56 (0, 0)) ∧ (wr.setCell ⟨G + 1, i, none⟩ (.int .u8 (y i : Int))).heap[G]? = some (.cells z8 56 (0, 0)) ∧ Below w.heap.size w (wr.setCell ⟨G + 1, i, none⟩ (.int .u8 (y i : Int)))) := hd (by
        have hm := (Mod.refl (fun k => k = G + 1) wr).setCell (p := ⟨G + 1, i, none⟩) (.inl rfl) (.int .u8 (y i : Int))
        refine ⟨?_, ?_, hb.trans (hm.below hb.size (fun k _ hk => by have := hG.out; omega))⟩
        · rw [heap_setCell_same wr (G + 1) i _ _ _ g1, arr8_set y i (by omega)]
        · rw [hm.block G (Array.getElem?_eq_some_iff.1 g0).1 (by omega)]
          exact g0)
      clear HR g1 g0 hb kc hyi hy HG0 HG1
      go_wp2_with fail
      go_roundg (gk - 1)
      case rel => exact ⟨i + 1, by omega, by go_num, HN⟩
      case measure => omega

/-- The sum of bytes hangs on them alone. -/
theorem sum_ext (bs cs : List Nat) (p q : Nat) : ∀ m, (∀ j, j < m → bs.getD (p + j) 0 = cs.getD (q + j) 0) → sumB bs p m = sumB cs q m
  | 0, _ => rfl
  | m + 1, h => by rw [sumB, sumB, sum_ext bs cs p q m (fun j hj => h j (by omega)), h m (by omega)]
theorem sum_zero (bs : List Nat) (p k : Nat) : ∀ d, (∀ j, k ≤ j → bs.getD (p + j) 0 = 0) → sumB bs p (k + d) = sumB bs p k
  | 0, _ => rfl
  | d + 1, h => by
    rw [← Nat.add_assoc, sumB, sum_zero bs p k d h, h (k + d) (by omega)]
    simp

set_option maxRecDepth 100000 in
theorem idx8 (y : Nat → Nat) (i : Nat) (hi : i < 8) : ∀ W, (Instr.index 56 (.agg #[.int .u8 (y 0 : Int), .int .u8 (y 1 : Int), .int .u8 (y 2 : Int), .int .u8 (y 3 : Int), .int .u8 (y 4 : Int), .int .u8 (y 5 : Int), .int .u8 (y 6 : Int), .int .u8 (y 7 : Int)]) (.int .i64 (i : Int))).run Try.prog W = .ok (.int .u8 (y i : Int)) W := by
  have hc : i = 0 ∨ i = 1 ∨ i = 2 ∨ i = 3 ∨ i = 4 ∨ i = 5 ∨ i = 6 ∨ i = 7 := by omega
  rcases hc with rfl | rfl | rfl | rfl | rfl | rfl | rfl | rfl <;> exact fun W => by kernel_rfl

set_option maxRecDepth 100000 in
set_option maxHeartbeats 2000000 in
theorem joined_sum (y S : Nat → Nat) (hb : Hid (∀ j, y j < 256)) (hS : Hid (∀ j, S (j + 1) = S j + y j * 2 ^ (8 * j))) (hLt : Hid (∀ j, S j < 2 ^ (8 * j))) (hz : Hid (S 0 = 0)) (w : World) :
    Calls Try.prog 37 #[.agg #[.int .u8 (y 0 : Int), .int .u8 (y 1 : Int), .int .u8 (y 2 : Int), .int .u8 (y 3 : Int), .int .u8 (y 4 : Int), .int .u8 (y 5 : Int), .int .u8 (y 6 : Int), .int .u8 (y 7 : Int)]] w fun e w' => e = .returned (.int .u64 (S 8 : Nat)) ∧ Below w.heap.size w w' := by
  have HB := hd (below_al w (.cells #[.int .u8 (y 0 : Int), .int .u8 (y 1 : Int), .int .u8 (y 2 : Int), .int .u8 (y 3 : Int), .int .u8 (y 4 : Int), .int .u8 (y 5 : Int), .int .u8 (y 6 : Int), .int .u8 (y 7 : Int)] 56))
  go_enter Try.func37, Try.ntmps37
  go_wp2_with fail
  obtain ⟨w1, hw1⟩ : ∃ W, Hid ((w.alloc (.cells #[.int .u8 (y 0 : Int), .int .u8 (y 1 : Int), .int .u8 (y 2 : Int), .int .u8 (y 3 : Int), .int .u8 (y 4 : Int), .int .u8 (y 5 : Int), .int .u8 (y 6 : Int), .int .u8 (y 7 : Int)] 56)) = W) := ⟨_, rfl⟩
  rw [hw1.out] at HB ⊢
  clear hw1
  go_loopg [3, 4, 5, 7, 8, 9, 10, 11, 12, 13, 14, 15, 16, 17, 18] 8 (fun g v3 v4 v5 v7 v8 v9 v10 v11 v12 v13 v14 v15 v16 v17 v18 wr => ∃ i : Nat, i + g = 8 ∧ v7 = .int .i64 (i : Int) ∧ v3 = .int .u64 (S i : Nat) ∧ wr = w1)
  case atStart => exact ⟨0, by omega, by go_num, by rw [hz.out]; rfl, rfl⟩
  case round =>
    obtain ⟨i, hi, rfl, rfl, rfl⟩ := hrel
    by_cases h0 : gk = 0
    · subst h0
      obtain rfl : i = 8 := by omega
      go_wp2_with fail
      go_ret
      exact ⟨rfl, HB.out⟩
    · have hlt : (i : Int) < 8 := by omega
      have hor := or_val (hLt.out i) (hb.out i) (by omega) (hS.out i)
      have hyl := hb.out i
      obtain ⟨T, hT⟩ : ∃ T, Hid (S (i + 1) = T) := ⟨_, rfl⟩
      rw [hT.out] at hor
      have ix := idx8 y i (by omega)
      clear hLt hz
      go_wp2_with fail
      go_roundg (gk - 1)
      case rel => exact ⟨i + 1, by omega, by go_num, by rw [hT.out], rfl⟩
      case measure => omega

theorem list8 (L : List Nat) (h : L.length = 8) : L = [L.getD 0 0, L.getD 1 0, L.getD 2 0, L.getD 3 0, L.getD 4 0, L.getD 5 0, L.getD 6 0, L.getD 7 0] := by
  match L, h with
  | [a, b, c, d, e, f, g, i], _ => rfl
theorem joined_any (L : List Nat) (hb : Byte L) (w : World) :
    Calls Try.prog 37 #[.agg #[.int .u8 (L.getD 0 0 : Nat), .int .u8 (L.getD 1 0 : Nat), .int .u8 (L.getD 2 0 : Nat), .int .u8 (L.getD 3 0 : Nat), .int .u8 (L.getD 4 0 : Nat), .int .u8 (L.getD 5 0 : Nat), .int .u8 (L.getD 6 0 : Nat), .int .u8 (L.getD 7 0 : Nat)]] w fun e w' => e = .returned (.int .u64 (sumB L 0 8 : Nat)) ∧ Below w.heap.size w w' :=
  joined_sum (fun j => L.getD j 0) (sumB L 0) (hd hb) (hd fun j => by rw [sumB, Nat.zero_add]) (hd (sumB_lt L 0 hb)) (hd rfl) w

theorem rd_arr {W : World} {G : Nat} {T : TypeId} {y0 y1 y2 y3 y4 y5 y6 y7 : Nat} (h : W.heap[G]? = some (.cells #[.int .u8 (y0 : Int), .int .u8 (y1 : Int), .int .u8 (y2 : Int), .int .u8 (y3 : Int), .int .u8 (y4 : Int), .int .u8 (y5 : Int), .int .u8 (y6 : Int), .int .u8 (y7 : Int)] T (0, 0))) : Rd W (some ⟨G, 0, none⟩) (bCells [y0, y1, y2, y3, y4, y5, y6, y7]) := fun j u hj =>
  ⟨G, 0, rfl, by rw [cell_of_row _ _ _ _ _ _ h, Nat.zero_add, ← hj]; simp [bCells]⟩
theorem rd_take {W : World} {a : Option Addr} {l : List Nat} (h : Rd W a (bCells l)) (k : Nat) : Rd W a (bCells (l.take k)) := fun j u hj => by
  have hl := (List.getElem?_eq_some_iff.1 hj).1
  rw [bCells_len, List.length_take] at hl
  refine h j u ?_
  rw [← hj]
  unfold bCells
  rw [List.map_take, List.getElem?_take, if_pos (by omega)]

theorem len_A8 : Try.prog.arrayLen 56 = 8 := by kernel_rfl
theorem elem_A8 : Try.prog.elem 56 = 5 := by kernel_rfl
theorem sl8_to (k : Nat) (hk : k ≤ 8) (G : Nat) (W : World) : (Instr.sliceAt 56 (.pointer (some ⟨G, 0, none⟩)) none (some (.int .i64 (k : Int))) none).run Try.prog W = .ok (.slice (some ⟨G, 0, none⟩) k 8) W := by
  obtain ⟨i, k1, k2, k3, k4⟩ := info_parts info_u8
  rw [run_sliceAt_array_h W 56 ⟨G, 0, none⟩ (by rw [len_A8, elem_A8]; exact Try.underlying56) .i64 k (by omega) (by rw [len_A8]; omega), len_A8, elem_A8]
  simp [sizeOf, typeInfo, k1, slicedAt, addr_add]
theorem sl8_all (G : Nat) (W : World) : (Instr.sliceAt 56 (.pointer (some ⟨G, 0, none⟩)) none none none).run Try.prog W = .ok (.slice (some ⟨G, 0, none⟩) 8 8) W := by
  obtain ⟨i, k1, k2, k3, k4⟩ := info_parts info_u8
  rw [run_sliceAt_array_all W 56 ⟨G, 0, none⟩ (by rw [len_A8, elem_A8]; exact Try.underlying56), len_A8, elem_A8]
  simp [sizeOf, typeInfo, k1, slicedAt, addr_add]

set_option maxRecDepth 100000 in
set_option maxHeartbeats 2000000 in
theorem written_any {w W : World} {a : Option Addr} {n c : Nat} {bs : List Nat} (h : Gr w W a n c bs) (hn : n ≤ 900000000) (v k : Nat) (hk : k ≤ 8) :
    Calls Try.prog 20 #[.slice a n c, .int .u64 (v : Int), .int .i64 (k : Int)] W fun e W' => ∃ a' c', e = .returned (.slice a' (n + k) c') ∧ Gr w W' a' (n + k) c' (bs ++ numB k v) ∧ GrTo W a W' a' := by
  have hs := split_any v W
  have HA : Hid (∀ W1, Below W.heap.size W W1 → ∃ a' c' W', (∀ ty, (Builtin.append_ #[27, 27] ty #[.slice a n c, .slice (some ⟨W1.heap.size, 0, none⟩) k 8]).run Try.prog (W1.alloc (.cells #[.int .u8 ((v / 2 ^ 0 % 256 : Nat) : Int), .int .u8 ((v / 2 ^ 8 % 256 : Nat) : Int), .int .u8 ((v / 2 ^ 16 % 256 : Nat) : Int), .int .u8 ((v / 2 ^ 24 % 256 : Nat) : Int), .int .u8 ((v / 2 ^ 32 % 256 : Nat) : Int), .int .u8 ((v / 2 ^ 40 % 256 : Nat) : Int), .int .u8 ((v / 2 ^ 48 % 256 : Nat) : Int), .int .u8 ((v / 2 ^ 56 % 256 : Nat) : Int)] 56)) = .ok (.slice a' (n + k) c') W') ∧ Gr w W' a' (n + k) c' (bs ++ numB k v) ∧ GrTo W a W' a') := hd (by
    intro W1 hb
    have hb2 := below_al W1 (.cells #[.int .u8 ((v / 2 ^ 0 % 256 : Nat) : Int), .int .u8 ((v / 2 ^ 8 % 256 : Nat) : Int), .int .u8 ((v / 2 ^ 16 % 256 : Nat) : Int), .int .u8 ((v / 2 ^ 24 % 256 : Nat) : Int), .int .u8 ((v / 2 ^ 32 % 256 : Nat) : Int), .int .u8 ((v / 2 ^ 40 % 256 : Nat) : Int), .int .u8 ((v / 2 ^ 48 % 256 : Nat) : Int), .int .u8 ((v / 2 ^ 56 % 256 : Nat) : Int)] 56)
    have hr := rd_take (rd_arr (heap_alloc_new W1 (.cells #[.int .u8 ((v / 2 ^ 0 % 256 : Nat) : Int), .int .u8 ((v / 2 ^ 8 % 256 : Nat) : Int), .int .u8 ((v / 2 ^ 16 % 256 : Nat) : Int), .int .u8 ((v / 2 ^ 24 % 256 : Nat) : Int), .int .u8 ((v / 2 ^ 32 % 256 : Nat) : Int), .int .u8 ((v / 2 ^ 40 % 256 : Nat) : Int), .int .u8 ((v / 2 ^ 48 % 256 : Nat) : Int), .int .u8 ((v / 2 ^ 56 % 256 : Nat) : Int)] 56))) k
    rw [← numB_8, numB_take k v hk] at hr
    have hb3 := hb.trans (hb2.mono hb.size)
    obtain ⟨a', c', W', m1, m2, m3⟩ := (h.below hb3).app (by omega) (c2 := 8) hr (numB_len k v) (by omega)
    exact ⟨a', c', W', m1, m2, GrTo.ahead hb3 m3⟩)
  clear h
  generalize v / 2 ^ 0 % 256 = y0 at *
  generalize v / 2 ^ 8 % 256 = y1 at *
  generalize v / 2 ^ 16 % 256 = y2 at *
  generalize v / 2 ^ 24 % 256 = y3 at *
  generalize v / 2 ^ 32 % 256 = y4 at *
  generalize v / 2 ^ 40 % 256 = y5 at *
  generalize v / 2 ^ 48 % 256 = y6 at *
  generalize v / 2 ^ 56 % 256 = y7 at *
  go_enter Try.func20, Try.ntmps20
  go_upto_region 2 with (go_at_call 30; refine hs.mono ?_; rintro e w1 ⟨rfl, b1⟩)
  obtain ⟨a', c', W', hap, hg, hto⟩ := HA.out w1 b1
  replace hap := hd hap
  replace hg := hd hg
  replace hto := hd hto
  clear HA b1 hs
  have sl := sl8_to k hk
  go_wp2_with (at_builtin; refine wpList_append_run rfl _ _ _ rfl _ _ _ _ rfl rfl hap.out ?_; clear hap)
  go_ret
  exact ⟨a', c', rfl, hg.out, hto.out⟩
end Go.Proofs.Ytnkanaccacephaa
