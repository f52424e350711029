/- The law's own: long, spoil. -/
import Derived.Test.YthldnbikephncaaLR8
namespace Go.Proofs.Ythldnbikephncaa
open Go.RowKit

theorem Row.put {w : World} {e : TypeId} {size g n cap : Nat} {xs : List Value} (h : Row w e size (some ⟨g, 0, none⟩) n cap xs) (j : Nat) (u : Value) : Row (w.setCell ⟨g, j, none⟩ u) e size (some ⟨g, 0, none⟩) n cap (xs.set j u) := by
  obtain ⟨h1, h2, h3, ⟨h4, _⟩ | ⟨g', cur, h4, hg, hs, ht⟩⟩ := h
  · cases h4
  · cases h4
    refine ⟨by simpa using h1, h2, h3, .inr ⟨g, _, rfl, heap_setCell_self hg u, by simpa using hs, ?_⟩⟩
    rw [Array.toList_setIfInBounds, List.take_set, ht]

set_option maxRecDepth 100000 in
set_option maxHeartbeats 1000000 in
theorem long_any {n m c1 c2 : Nat} {a1 a2 : Option Addr} {v2 v3 : Value} {w : World} (B : Bool) (hB : B = true ↔ 1048576 < n ∨ 4096 < m) :
    Calls Try.prog 6 #[.agg #[.slice a1 n c1, .slice a2 m c2, v2, v3]] w fun e w' => e = .returned (.bool B) ∧ Below w.heap.size w w' := by
  have HB := hd hB
  clear hB
  by_cases h1 : 1048576 < n
  · have h1' : (1048576 : Int) < (n : Int) := by omega
    obtain rfl : B = true := HB.out.2 (.inl h1)
    go_enter Try.func6, Try.ntmps6
    go_wp2_with fail
    go_ret
    exact ⟨rfl, below_al _ _⟩
  · have h1' : decide (1048576 < n) = false := by simpa using h1
    have h1'' : decide ((1048576 : Int) < (n : Int)) = false := by simp; omega
    by_cases h2 : 4096 < m
    · have h2' : (4096 : Int) < (m : Int) := by omega
      obtain rfl : B = true := HB.out.2 (.inr h2)
      go_enter Try.func6, Try.ntmps6
      go_wp2_with fail
      go_ret
      exact ⟨rfl, below_al _ _⟩
    · have h2' : decide (4096 < m) = false := by simpa using h2
      have h2'' : decide ((4096 : Int) < (m : Int)) = false := by simp; omega
      obtain rfl : B = false := by
        cases hb : B
        · rfl
        · rcases HB.out.1 hb with h | h
          · exact absurd h h1
          · exact absurd h h2
      go_enter Try.func6, Try.ntmps6
      go_wp2_with fail
      go_ret
      exact ⟨rfl, below_al _ _⟩

/-- Two rows that are being written over. -/
structure Sp (w0 w : World) (S : Nat → Prop) (a1 : Option Addr) (n c1 : Nat) (a2 : Option Addr) (m c2 : Nat) : Prop where
  r1 : ∃ xs, Row w 2 1 a1 n c1 xs
  r2 : ∃ xs, Row w 50 2 a2 m c2 xs
  ne : ∀ k, blk a2 = some k → blk a1 ≠ some k
  mod : Mod S w0 w
  i1 : ∀ k, blk a1 = some k → S k ∨ w0.heap.size ≤ k
  i2 : ∀ k, blk a2 = some k → S k ∨ w0.heap.size ≤ k

section
variable {w0 w w' : World} {S : Nat → Prop} {a1 a2 : Option Addr} {n c1 m c2 : Nat}
theorem Sp.bel (h : Sp w0 w S a1 n c1 a2 m c2) (hb : Below w.heap.size w w') : Sp w0 w' S a1 n c1 a2 m c2 := by
  obtain ⟨xs, h1⟩ := h.r1
  obtain ⟨ys, h2⟩ := h.r2
  exact ⟨⟨xs, h1.below hb⟩, ⟨ys, h2.below hb⟩, h.ne, h.mod.after hb, h.i1, h.i2⟩
theorem Sp.put1 {g : Nat} (h : Sp w0 w S (some ⟨g, 0, none⟩) n c1 a2 m c2) (j : Nat) (u : Value) : Sp w0 (w.setCell ⟨g, j, none⟩ u) S (some ⟨g, 0, none⟩) n c1 a2 m c2 := by
  obtain ⟨xs, h1⟩ := h.r1
  obtain ⟨ys, h2⟩ := h.r2
  exact ⟨⟨_, h1.put j u⟩, ⟨ys, h2.kept (fun k hk => Below.heap_setCell _ _ _ _ (fun e => h.ne k hk (by rw [show k = g from e]; rfl)))⟩, h.ne, h.mod.setCell (h.i1 g rfl) u, h.i1, h.i2⟩
theorem Sp.put2 {g : Nat} (h : Sp w0 w S a1 n c1 (some ⟨g, 0, none⟩) m c2) (j : Nat) (u : Value) : Sp w0 (w.setCell ⟨g, j, none⟩ u) S a1 n c1 (some ⟨g, 0, none⟩) m c2 := by
  obtain ⟨xs, h1⟩ := h.r1
  obtain ⟨ys, h2⟩ := h.r2
  exact ⟨⟨xs, h1.kept (fun k hk => Below.heap_setCell _ _ _ _ (fun e => h.ne g rfl (by rw [← show k = g from e]; exact hk)))⟩, ⟨_, h2.put j u⟩, h.ne, h.mod.setCell (h.i2 g rfl) u, h.i1, h.i2⟩
/-- Behind an append to the first one. -/
theorem Sp.app1 (h : Sp w0 w S a1 n c1 a2 m c2) {a : Option Addr} {k' c' : Nat} {xs : List Value} (hR : Row w' 2 1 a k' c' xs) (hm : Mod (fun k => blk a1 = some k) w w') (hn : ∀ k, blk a = some k → blk a1 = some k ∨ w.heap.size ≤ k) : Sp w0 w' S a k' c' a2 m c2 := by
  obtain ⟨ys, h2⟩ := h.r2
  refine ⟨⟨xs, hR⟩, ⟨ys, h2.mod hm (fun k hk => h.ne k hk)⟩, fun k hk e => ?_, h.mod.trans hm h.i1, fun k hk => ?_, h.i2⟩
  · rcases hn k e with h1 | h1
    · exact h.ne k hk h1
    · have := h2.lt k hk; omega
  · rcases hn k hk with h1 | h1
    · exact h.i1 k h1
    · exact .inr (Nat.le_trans h.mod.size h1)
theorem Sp.app2 (h : Sp w0 w S a1 n c1 a2 m c2) {a : Option Addr} {k' c' : Nat} {xs : List Value} (hR : Row w' 50 2 a k' c' xs) (hm : Mod (fun k => blk a2 = some k) w w') (hn : ∀ k, blk a = some k → blk a2 = some k ∨ w.heap.size ≤ k) : Sp w0 w' S a1 n c1 a k' c' := by
  obtain ⟨ys, h2⟩ := h.r1
  refine ⟨⟨ys, h2.mod hm (fun k hk e => h.ne k e hk)⟩, ⟨xs, hR⟩, fun k hk e => ?_, h.mod.trans hm h.i2, h.i1, fun k hk => ?_⟩
  · rcases hn k hk with h1 | h1
    · exact h.ne k h1 e
    · have := h2.lt k e; omega
  · rcases hn k hk with h1 | h1
    · exact h.i2 k h1
    · exact .inr (Nat.le_trans h.mod.size h1)
end

set_option maxRecDepth 100000 in
set_option maxHeartbeats 2000000 in
theorem spoil_any {n m c1 c2 : Nat} {a1 a2 : Option Addr} {xs ys : List Value} {v2 v3 : Value} {w : World} (h1 : Row w 2 1 a1 n c1 xs) (h2 : Row w 50 2 a2 m c2 ys) (hne : ∀ k, blk a2 = some k → blk a1 ≠ some k) (hn : n ≤ 7000000000000) (hm : m ≤ 7000000000000) :
    Calls Try.prog 11 #[.agg #[.slice a1 n c1, .slice a2 m c2, v2, v3]] w fun e w' => e = .returned (.tuple #[]) ∧ Mod (fun k => blk a1 = some k ∨ blk a2 = some k) w w' := by
  have hb := below_al w (.cells #[.slice a1 n c1, .slice a2 m c2, v2, v3] 25)
  have HS0 : Hid (Sp w (w.alloc (.cells #[.slice a1 n c1, .slice a2 m c2, v2, v3] 25)) (fun k => blk a1 = some k ∨ blk a2 = some k) a1 n c1 a2 m c2) := hd ⟨⟨xs, h1.below hb⟩, ⟨ys, h2.below hb⟩, hne, Mod.of_below _ hb, fun k hk => .inl (.inl hk), fun k hk => .inl (.inr hk)⟩
  have HX0 : Hid (Box4 (w.alloc (.cells #[.slice a1 n c1, .slice a2 m c2, v2, v3] 25)) 25 w.heap.size (.slice a1 n c1) (.slice a2 m c2) v2 v3) := hd (box4_new _ _ _ _ _ _)
  have hg1 : Hid (∀ k, blk a1 = some k → w.heap.size ≠ k) := hd (fun k hk e => by have := h1.lt k hk; omega)
  have hg2 : Hid (∀ k, blk a2 = some k → w.heap.size ≠ k) := hd (fun k hk e => by have := h2.lt k hk; omega)
  obtain ⟨S, hS⟩ : ∃ S : Nat → Prop, Hid ((fun k => blk a1 = some k ∨ blk a2 = some k) = S) := ⟨_, rfl⟩
  rw [hS.out] at HS0 ⊢
  clear h1 h2 hne hb
  go_enter Try.func11, Try.ntmps11
  go_upto_region 1 with fail
  obtain ⟨w1, hw1⟩ : ∃ W, Hid (w.alloc (.cells #[.slice a1 n c1, .slice a2 m c2, v2, v3] 25) = W) := ⟨_, rfl⟩
  obtain ⟨G, hG⟩ : ∃ G, Hid (w.heap.size = G) := ⟨_, rfl⟩
  rw [hw1.out] at HS0 HX0 ⊢
  rw [hG.out] at HX0 hg1 hg2 ⊢
  clear hw1
  go_wp2_with fail
  go_loopg [2] n (fun k v wr => ∃ i : Nat, v = .int .i64 i ∧ i + k = n ∧ Hid (Sp w wr S a1 n c1 a2 m c2 ∧ Box4 wr 25 G (.slice a1 n c1) (.slice a2 m c2) v2 v3))
  case atStart => exact ⟨0, rfl, by omega, hd ⟨HS0.out, HX0.out⟩⟩
  case round =>
    obtain ⟨i, rfl, hik, HH⟩ := hrel
    clear HS0 HX0
    obtain ⟨p0, p1, -, -⟩ := HH.out.2.cells
    by_cases hlt : i < n
    · have hlt' : (i : Int) < (n : Int) := by omega
      obtain ⟨xs', hr⟩ := HH.out.1.r1
      obtain ⟨g, rfl⟩ := hr.head (by omega)
      obtain ⟨g', eg, x0⟩ := hr.cell i (by omega)
      cases eg
      have hx : ∃ u, xs'[i]? = some u := ⟨_, List.getElem?_eq_getElem (by rw [hr.len]; omega)⟩
      obtain ⟨u, hu⟩ := hx
      rw [hu] at x0
      have xf := hr.free i g rfl
      have HS1 := hd (HH.out.1.put1 i (.int .i64 (-7)))
      have HX1 := hd (HH.out.2.set (b := g) (hg1.out g rfl) i (.int .i64 (-7)))
      clear hr hu HH
      go_wp2_with fail
      go_roundg (gk - 1)
      case measure => omega
      case rel => exact ⟨i + 1, by go_num, by omega, hd ⟨HS1.out, HX1.out⟩⟩
    · have hltd : decide ((i : Int) < (n : Int)) = false := by simp; omega
      go_upto_region 5 with fail
      clear p0 p1
      go_wp2_with fail
      go_loopg [3] m (fun k v wr => ∃ i : Nat, v = .int .i64 i ∧ i + k = m ∧ Hid (Sp w wr S a1 n c1 a2 m c2 ∧ Box4 wr 25 G (.slice a1 n c1) (.slice a2 m c2) v2 v3))
      case atStart => exact ⟨0, rfl, by omega, HH⟩
      case round =>
        clear HH
        obtain ⟨j, rfl, hjk, HH⟩ := hrel
        obtain ⟨p0, p1, -, -⟩ := HH.out.2.cells
        by_cases hlt2 : j < m
        · have hlt2' : (j : Int) < (m : Int) := by omega
          obtain ⟨xs', hr⟩ := HH.out.1.r2
          obtain ⟨g, rfl⟩ := hr.head (by omega)
          obtain ⟨g', eg, x0⟩ := hr.cell (j * 2) (by omega)
          cases eg
          obtain ⟨g', eg, x1⟩ := hr.cell (j * 2 + 1) (by omega)
          cases eg
          obtain ⟨u, hu⟩ : ∃ u, xs'[j * 2]? = some u := ⟨_, List.getElem?_eq_getElem (by rw [hr.len]; omega)⟩
          obtain ⟨u', hu'⟩ : ∃ u, xs'[j * 2 + 1]? = some u := ⟨_, List.getElem?_eq_getElem (by rw [hr.len]; omega)⟩
          rw [hu] at x0
          rw [hu'] at x1
          have xf := hr.free (j * 2) g rfl
          have xf1 := hr.free (j * 2 + 1) g rfl
          have HS1 := hd ((HH.out.1.put2 (j * 2) (.int .i64 (-7))).put2 (j * 2 + 1) (.int .i64 0))
          have HX1 := hd ((HH.out.2.set (b := g) (hg2.out g rfl) (j * 2) (.int .i64 (-7))).set (b := g) (hg2.out g rfl) (j * 2 + 1) (.int .i64 0))
          clear hr hu hu' HH
          go_wp2_with fail
          go_roundg (gk - 1)
          case measure => omega
          case rel => exact ⟨j + 1, by go_num, by omega, hd ⟨HS1.out, HX1.out⟩⟩
        · have hltd2 : decide ((j : Int) < (m : Int)) = false := by simp; omega
          have HS2 := hd HH.out.1
          clear HH
          go_wp2_with fail
          go_loopg [4, 5, 6] 9 (fun k v4 v5 v6 wr => ∃ (i n' m' d1 d2 : Nat) (b1 b2 : Option Addr), v4 = .slice b1 n' d1 ∧ v5 = .slice b2 m' d2 ∧ v6 = .int .i64 i ∧ i + k = 9 ∧ n' = n + i ∧ m' = m + i ∧ Hid (Sp w wr S b1 n' d1 b2 m' d2))
          case atStart => exact ⟨0, n, m, c1, c2, a1, a2, rfl, rfl, rfl, by omega, rfl, rfl, HS2⟩
          case round =>
            clear HS2 p0 p1
            obtain ⟨t, n', m', d1, d2, b1, b2, rfl, rfl, rfl, htk, hn', hm', HH⟩ := hrel
            replace hn' := hd hn'
            replace hm' := hd hm'
            by_cases hlt3 : t < 9
            · have hlt3' : (t : Int) < 9 := by omega
              obtain ⟨xs1, hr1⟩ := HH.out.r1
              obtain ⟨a', c', w2, hap, R2, M2, B2⟩ := push_i hr1 (by have := hn'.out; omega) (-8)
              have S2 := HH.out.app1 R2 M2 B2
              obtain ⟨ys1, hr2⟩ := S2.r2
              obtain ⟨a'', c'', w3, hap3, R3, M3, B3⟩ := push_w hr2 (by have := hm'.out; omega) (-8) 0
              have HS3 := hd (S2.app2 R3 M3 B3)
              have hap := hd hap
              have hap3 := hd hap3
              clear hr1 hr2 R2 M2 B2 R3 M3 B3 S2 HH
              go_wp2_with (first | (at_builtin; first | (refine wpList_append_run rfl _ _ _ rfl _ _ _ _ rfl rfl hap.out ?_; clear hap) | (refine wpList_append_run rfl _ _ _ rfl _ _ _ _ rfl rfl hap3.out ?_; clear hap3)))
              go_roundg (gk - 1)
              case measure => omega
              case rel => exact ⟨t + 1, n' + 1, m' + 1, c', c'', a', a'', rfl, rfl, by go_num, by omega, by have := hn'.out; omega, by have := hm'.out; omega, HS3⟩
            · have hltd3 : decide ((t : Int) < 9) = false := by simp; omega
              have HE : Hid (Mod S w wr) := hd HH.out.mod
              go_wp2_with fail
              refine bodyPost_end (results_none rfl _ _ _) rfl ?_
              exact ⟨rfl, HE.out⟩
end Go.Proofs.Ythldnbikephncaa
