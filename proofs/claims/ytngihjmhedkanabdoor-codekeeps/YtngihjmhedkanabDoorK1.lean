/- Copies with room behind them, and marks there. -/
import Derived.Test.YtngihjmhedkanabDoorKS
import Derived.OwnWalk
namespace Go.Proofs.YtngihjmhedkanabDoor
open Go.RowKit

def m77 : Ins := ⟨77, 0, 0, 0, 0⟩
def m78 : Ins := ⟨78, 0, 0, 0, 0⟩

theorem insAt_cells {w : World} {b o : Nat} {x : Ins} (h : InsAt w b o x) (r : Nat) (hr : r < 5) : w.cell? ⟨b, o + r, none⟩ = (insCells x)[r]? := by
  have : r = 0 ∨ r = 1 ∨ r = 2 ∨ r = 3 ∨ r = 4 := by omega
  rcases this with rfl | rfl | rfl | rfl | rfl
  · exact h.c0
  · exact h.c1
  · exact h.c2
  · exact h.c3
  · exact h.c4

theorem prg_cells {w : World} {a : Option Addr} {l : List Ins} (h : Prg w a l) : ∀ ad, a = some ad → ∀ j u, (pCells l)[j]? = some u → w.cell? (ad.add j) = some u := by
  intro ad ha j u hu
  have hj : j < (pCells l).length := by
    rcases Nat.lt_or_ge j (pCells l).length with h | h
    · exact h
    · rw [List.getElem?_eq_none h] at hu; cases hu
  rw [pCells_len] at hj
  obtain ⟨b, off, e, hc⟩ := h (j / 5) (by omega)
  rw [ha] at e
  obtain rfl := Option.some.inj e
  have h1 := insAt_cells hc (j % 5) (by omega)
  have h2 := pCells_at l (j / 5) (j % 5) (by omega) (by omega)
  rw [show j / 5 * 5 + j % 5 = j by omega] at h2
  rw [addr_add, show off + j = off + j / 5 * 5 + j % 5 by omega, h1, ← h2, hu]

theorem byt_cells {w : World} {a : Option Addr} {bs : List Nat} (h : Byt w a bs) : ∀ ad, a = some ad → ∀ j u, (bCells bs)[j]? = some u → w.cell? (ad.add j) = some u := by
  intro ad ha j u hu
  have hj : j < (bCells bs).length := by
    rcases Nat.lt_or_ge j (bCells bs).length with h | h
    · exact h
    · rw [List.getElem?_eq_none h] at hu; cases hu
  rw [bCells_len] at hj
  obtain ⟨b, off, e, hc⟩ := h j hj
  rw [ha] at e
  obtain rfl := Option.some.inj e
  rw [addr_add, hc, ← hu]
  simp [bCells, List.getD_eq_getElem?_getD, hj]

theorem pCells_one (l : List Ins) : ∀ u ∈ pCells l, u.oneCell' = true := by
  intro u hu
  simp only [pCells, List.mem_flatMap] at hu
  obtain ⟨x, _, hx⟩ := hu
  simp only [insCells, List.mem_cons, List.not_mem_nil, or_false] at hx
  rcases hx with rfl | rfl | rfl | rfl | rfl <;> rfl
theorem bCells_one (l : List Nat) : ∀ u ∈ bCells l, u.oneCell' = true := by
  intro u hu
  simp only [bCells, List.mem_map] at hu
  obtain ⟨x, _, rfl⟩ := hu
  rfl
theorem pCells_app (l m : List Ins) : pCells l ++ pCells m = pCells (l ++ m) := by simp [pCells]

set_option maxRecDepth 100000 in
set_option maxHeartbeats 4000000 in
theorem wide_any (a : Option Addr) (cap : Nat) (l : List Ins) (w : World) (hP : Prg w a l) (hn : a = none → l.length = 0 ∧ cap = 0) (hlen : l.length ≤ 1048576) :
    Calls Tryd.prog 7 #[.slice a l.length cap] w fun e w' => ∃ g, e = .returned (.slice (some ⟨g, 0, none⟩) l.length (l.length + 2)) ∧ w'.ownsRow w.heap.size 27 5 (.slice (some ⟨g, 0, none⟩) (l.length + 2) (l.length + 2)) (l.length + 2) (pCells (l ++ [m77, m78])) ∧ Below w.heap.size w w' := by
  obtain ⟨i0, hi0, hz0, hz1, hz2⟩ := info_parts info_ins
  have HP : Hid (Prg w a l) := hP
  have HL : Hid ((pCells l).length = l.length * 5) := hd (pCells_len l)
  clear hP
  obtain ⟨L, hL⟩ : ∃ L, Hid (l.length = L) := ⟨_, rfl⟩
  rw [hL.out] at HL hn hlen ⊢
  go_enter Tryd.func7, Tryd.ntmps7
  go_wp2_with (first
    | (at_make; refine wpList_make_own _ rfl _ _ 22 rfl w.heap.size 27 i0 (.agg #[.int .i64 0, .int .i64 0, .int .i64 0, .int .i64 0, .int .i64 0]) 5 Tryd.underlying22 hi0 hz0 hz1 .i64 .i64 _ (L + 2) rfl rfl (by omega) (by rw [hz2]; omega) (by unfold maxLen; omega) (Nat.le_refl _) ?_; intro w0 hown0 hg0
       have b0 : Below w.heap.size w w0 := (Below.refl _ _).grown hg0 (Nat.le_refl _) (fun k hk => by cases hk)
       have P0 := HP.out.kept b0
       have hs0 := b0.size
       clear hg0)
    | (at_builtin; refine wpList_append_fits_any _ rfl _ _ 22 rfl w.heap.size 27 i0 5 Tryd.underlying22 hi0 hz1 w.heap.size 0 (L + 2) [] rfl hown0 a L cap (pCells l) rfl HL.out hn (prg_cells P0) (pCells_one l) (by omega) ?_; intro w1 hown1 hg1
       have b1 : Below w.heap.size w w1 := b0.grown hg1 hs0 (fun k hk => by cases hk; exact Nat.le_refl _)
       have hs1 := b1.size
       rw [List.nil_append] at hown1
       simp only [Nat.zero_add] at hown1
       clear hg1 P0 hown0)
    | (at_builtin; refine wpList_append_fits_any _ rfl _ _ 22 rfl w.heap.size 27 i0 5 Tryd.underlying22 hi0 hz1 w.heap.size L (L + 2) (pCells l) rfl (hown1.alloc _) (some ⟨_, 0, none⟩) 2 2 (pCells [m77, m78]) rfl rfl (fun h => by cases h) (fun ad h => by cases h; exact cells_new (pCells [m77, m78]) _ rfl) (pCells_one _) (by omega) ?_; intro w2 hown2 hg2
       have b2 : Below w.heap.size w w2 := (b1.alloc hs1 _).grown hg2 (by simp; omega) (fun k hk => by cases hk; exact Nat.le_refl _)
       rw [pCells_app] at hown2
       clear hg2 hown1))
  go_ret
  exact ⟨_, rfl, hown2, b2⟩

set_option maxRecDepth 100000 in
set_option maxHeartbeats 4000000 in
theorem wideBytes_any (a : Option Addr) (cap : Nat) (l : List Nat) (w : World) (hP : Byt w a l) (hn : a = none → l.length = 0 ∧ cap = 0) (hlen : l.length ≤ 1048576) :
    Calls Tryd.prog 8 #[.slice a l.length cap] w fun e w' => ∃ g, e = .returned (.slice (some ⟨g, 0, none⟩) l.length (l.length + 3)) ∧ w'.ownsRow w.heap.size 5 1 (.slice (some ⟨g, 0, none⟩) (l.length + 3) (l.length + 3)) (l.length + 3) (bCells (l ++ [161, 162, 163])) ∧ Below w.heap.size w w' := by
  obtain ⟨i0, hi0, hz0, hz1, hz2⟩ := info_parts info_u8
  have HP : Hid (Byt w a l) := hP
  have HL : Hid ((bCells l).length = l.length * 1) := hd (by rw [bCells_len]; omega)
  clear hP
  obtain ⟨L, hL⟩ : ∃ L, Hid (l.length = L) := ⟨_, rfl⟩
  rw [hL.out] at HL hn hlen ⊢
  go_enter Tryd.func8, Tryd.ntmps8
  go_wp2_with (first
    | (at_make; refine wpList_make_own _ rfl _ _ 23 rfl w.heap.size 5 i0 (.int .u8 0) 1 Tryd.underlying23 hi0 hz0 hz1 .i64 .i64 _ (L + 3) rfl rfl (by omega) (by rw [hz2]; omega) (by unfold maxLen; omega) (Nat.le_refl _) ?_; intro w0 hown0 hg0
       have b0 : Below w.heap.size w w0 := (Below.refl _ _).grown hg0 (Nat.le_refl _) (fun k hk => by cases hk)
       have P0 := HP.out.kept b0
       have hs0 := b0.size
       clear hg0)
    | (at_builtin; refine wpList_append_fits_any _ rfl _ _ 23 rfl w.heap.size 5 i0 1 Tryd.underlying23 hi0 hz1 w.heap.size 0 (L + 3) [] rfl hown0 a L cap (bCells l) rfl HL.out hn (byt_cells P0) (bCells_one l) (by omega) ?_; intro w1 hown1 hg1
       have b1 : Below w.heap.size w w1 := b0.grown hg1 hs0 (fun k hk => by cases hk; exact Nat.le_refl _)
       have hs1 := b1.size
       rw [List.nil_append] at hown1
       simp only [Nat.zero_add] at hown1
       clear hg1 P0 hown0)
    | (at_builtin; refine wpList_append_fits_any _ rfl _ _ 23 rfl w.heap.size 5 i0 1 Tryd.underlying23 hi0 hz1 w.heap.size L (L + 3) (bCells l) rfl (hown1.alloc _) (some ⟨_, 0, none⟩) 3 3 (bCells [161, 162, 163]) rfl rfl (fun h => by cases h) (fun ad h => by cases h; exact cells_new (bCells [161, 162, 163]) _ rfl) (bCells_one _) (by omega) ?_; intro w2 hown2 hg2
       have b2 : Below w.heap.size w w2 := (b1.alloc hs1 _).grown hg2 (by simp; omega) (fun k hk => by cases hk; exact Nat.le_refl _)
       rw [bCells_app] at hown2
       clear hg2 hown1))
  go_ret
  exact ⟨_, rfl, hown2, b2⟩

theorem shortB_any (a : Option Addr) (n cap : Nat) (w : World) (h : n ≤ cap) :
    Calls Tryd.prog 6 #[.slice a n cap] w fun e w' => e = .returned (.slice a (min n 1048576) (min n 1048576)) ∧ w' = w := by
  by_cases h1 : n ≤ 1048576
  · rw [Nat.min_eq_left h1]
    by_cases h2 : n = 1048576
    · subst h2
      go_enter Tryd.func6, Tryd.ntmps6
      go_wp2_with fail
      go_ret
      exact ⟨rfl, rfl⟩
    · have d1 : (n : Int) < 1048576 := by omega
      go_enter Tryd.func6, Tryd.ntmps6
      go_wp2_with fail
      go_ret
      exact ⟨rfl, rfl⟩
  · rw [Nat.min_eq_right (by omega)]
    have d1 : (1048576 : Int) < (n : Int) := by omega
    have d2 : 1048576 ≤ cap := by omega
    go_enter Tryd.func6, Tryd.ntmps6
    go_wp2_with fail
    go_ret
    exact ⟨rfl, rfl⟩

theorem drewN_ins {w : World} {b o : Nat} {x : Ins} (h : InsAt w b o x) (n : Nat) : InsAt (w.drewN n) b o x := ⟨h.c0, h.c1, h.c2, h.c3, h.c4⟩

set_option maxRecDepth 100000 in
set_option maxHeartbeats 4000000 in
theorem kept_any (a : Option Addr) (g c : Nat) (l : List Ins) (w : World) (hlen : l.length ≤ 1048576) (hP : Prg w (some ⟨g, 0, none⟩) (l ++ [m77, m78])) (hQ : Prg w a l) :
    Calls Tryd.prog 12 #[.slice (some ⟨g, 0, none⟩) l.length (l.length + 2), .slice a l.length c] w fun e w' => e = .returned (.bool true) ∧ ∃ n, w' = w.drewN n := by
  have hs := same_yes (some ⟨g, 0, none⟩) a (l.length + 2) c l w (by omega) (by have := hP.take l.length; rwa [List.take_left' rfl] at this) hQ
  have k1 : InsAt w g (l.length * 5) m77 := by
    obtain ⟨b, off, e, h⟩ := hP l.length (by simp)
    simp at e
    obtain ⟨rfl, rfl⟩ := e
    simpa [List.getD_eq_getElem?_getD] using h
  have k2 : InsAt w g ((l.length + 1) * 5) m78 := by
    obtain ⟨b, off, e, h⟩ := hP (l.length + 1) (by simp)
    simp at e
    obtain ⟨rfl, rfl⟩ := e
    simpa [List.getD_eq_getElem?_getD] using h
  clear hP hQ
  generalize l.length = L at *
  go_enter Tryd.func12, Tryd.ntmps12
  go_wp2_with fail
  refine hs.mono ?_
  rintro e w1 ⟨rfl, n, rfl⟩
  obtain ⟨W, hW⟩ : ∃ W, Hid (W = w.drewN n) := ⟨_, rfl⟩
  have k1 : InsAt W g (L * 5) m77 := by rw [hW.out]; exact drewN_ins k1 n
  have k2 : InsAt W g ((L + 1) * 5) m78 := by rw [hW.out]; exact drewN_ins k2 n
  rw [← hW.out]
  obtain ⟨x0, x1, x2, x3, x4⟩ := k1
  obtain ⟨y0, y1, y2, y3, y4⟩ := k2
  simp only [m77, m78] at x0 x1 x2 x3 x4 y0 y1 y2 y3 y4
  clear hs
  go_wp2_with fail
  go_ret
  exact ⟨rfl, n, hW.out⟩
end Go.Proofs.YtngihjmhedkanabDoor
