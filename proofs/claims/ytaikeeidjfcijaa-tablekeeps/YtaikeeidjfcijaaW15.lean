/- TableMays. -/
import Derived.Test.YtaikeeidjfcijaaW14
import Derived.Test.YtaikeeidjfcijaaS16
namespace Go.Proofs.Ytaikeeidjfcijaa
open Go.RowKit Go.Maps

set_option maxRecDepth 100000 in
set_option maxHeartbeats 1000000 in
theorem short_any (a : Option Addr) (cap n m : Nat) (w : World) (hm : (if (1048576 : Int) < (n : Int) then (1048576 : Int) else (n : Int)) = (m : Int)) (hmn : m ≤ n) (hc : n ≤ cap) :
    Calls Try.prog 9 #[.slice a n cap] w fun e w' => e = .returned (.slice a m m) ∧ w' = w := by
  go_enter Try.func9, Try.ntmps9
  go_wp2
  go_ret
  exact ⟨rfl, rfl⟩

set_option maxRecDepth 100000 in
set_option maxHeartbeats 8000000 in
theorem tableMays_walk (a : Option Addr) (cap : Nat) (l : List Nat) (w : World) (hC : Cells w a (labCells l)) (hcp : l.length ≤ cap) (hlw : ∀ i, l.getD i 0 < 18446744073709551616) :
    Calls Try.prog 4 #[.slice a l.length cap] w fun e w' => e = .returned (.bool true) ∧ Go.RowKit.Below w.heap.size w w' := by
  obtain ⟨s, hs, hsl⟩ := take_lab l 1048576
  have hCs : Cells w a (labCells s) := by rw [hs]; exact cells_take_lab hC 1048576
  have hsw : ∀ i, s.getD i 0 < 18446744073709551616 := by rw [hs]; exact getD_take_lt hlw 1048576
  obtain ⟨f, hf, hfl⟩ := take_lab s 300
  have hCf : Cells w a (labCells f) := by rw [hf]; exact cells_take_lab hCs 300
  have e1 := cutM l.length
  have e2 := cut300 s.length
  rw [← hsl] at e1
  rw [← hfl] at e2
  have b1 : s.length ≤ l.length := by omega
  have b2 : s.length ≤ 1048576 := by omega
  have b3 : f.length ≤ s.length := by omega
  have b4 : f.length ≤ 300 := by omega
  have hsh := fun w => short_any a cap l.length s.length w e1 b1 hcp
  clear hs hsl hf hfl e1 hC hlw
  generalize l.length = nl at *
  go_enter Try.func4, Try.ntmps4
  go_wp2_with fail
  refine (awake_any _).mono ?_
  rintro e w1 ⟨rfl, B1⟩
  go_wp2_with fail
  refine (hsh w1).mono ?_
  rintro e w1 ⟨rfl, rfl⟩
  clear hsh
  go_wp2_with fail
  refine (may_any a s.length s w1 (hCs.kept B1)).mono ?_
  rintro e w2 ⟨rfl, hd2⟩
  have B2 := below_step B1 (below_draw hd2)
  clear hd2
  go_wp2_with fail
  refine (rmay_any a s.length s w2 (hCs.kept B2)).mono ?_
  rintro e w3 ⟨rfl, hd3⟩
  have B3 := below_step B2 (below_draw hd3)
  clear hd3
  by_cases hok : (mayL s).1 = 0
  · have hz := mayL_zero hok
    rw [hz]
    go_wp2_with fail
    refine (new_yes a s.length s w3 (hCs.kept B3) hz hsw).mono ?_
    rintro e w4 ⟨tb, lb, tc, mb, rfl, T4, hb4⟩
    have B4 := below_step B3 hb4
    clear hok hz hb4 T4
    go_wp2_with fail
    refine (canon_any a f.length f w4 (hCf.kept B4) (by omega)).mono ?_
    rintro e w5 ⟨v5, c5, hc5, rfl, ho5, hb5⟩
    have B5 := below_step B4 hb5
    obtain ⟨a5, p5, rfl, hC5, _, _⟩ := cells_of_owns ho5
    clear ho5
    go_wp2_with fail
    refine (rcanon_any a f.length f w5 (hCf.kept B5) (by omega)).mono ?_
    rintro e w6 ⟨v6, c6, hc6, rfl, ho6, hb6⟩
    have B6 := below_step B5 hb6
    obtain ⟨a6, p6, rfl, hC6, _, _⟩ := cells_of_owns ho6
    have hcc : c5 = c6 := canon_unique hc5 hc6
    have hl5 := rising_len f c5 hc5.1 (fun x hx => (hc5.2 x).1 hx)
    clear ho6 hc5 hc6
    subst hcc
    go_wp2_with fail
    refine (sameLabels_at _ _ _ _ _ _ c5 w6 rfl rfl (hC5.kept hb6) hC6 (by omega)).mono ?_
    rintro e w7 ⟨rfl, hb7⟩
    have B7 := below_step B6 hb7
    go_wp2
    go_ret
    exact ⟨rfl, B7⟩
  · have hno := new_no a s.length s w3 (hCs.kept B3) hok
    generalize mayL s = pr at *
    obtain ⟨er, at0⟩ := pr
    simp only at hno hok ⊢
    have t0 : ((er : Int) != 0) = true := by rw [bne_iff_ne]; omega
    have t1 : ((er : Int) != (er : Int)) = false := by simp
    have t2 : ((at0 : Int) != (at0 : Int)) = false := by simp
    clear hok
    go_wp2_with fail
    refine hno.mono ?_
    rintro e w4 ⟨rfl, hd4⟩
    have B4 := below_step B3 (below_draw hd4)
    clear hno hd4
    go_wp2_with fail
    refine (canon_any a f.length f w4 (hCf.kept B4) (by omega)).mono ?_
    rintro e w5 ⟨v5, c5, hc5, rfl, ho5, hb5⟩
    have B5 := below_step B4 hb5
    obtain ⟨a5, p5, rfl, hC5, _, _⟩ := cells_of_owns ho5
    clear ho5
    go_wp2_with fail
    refine (rcanon_any a f.length f w5 (hCf.kept B5) (by omega)).mono ?_
    rintro e w6 ⟨v6, c6, hc6, rfl, ho6, hb6⟩
    have B6 := below_step B5 hb6
    obtain ⟨a6, p6, rfl, hC6, _, _⟩ := cells_of_owns ho6
    have hcc : c5 = c6 := canon_unique hc5 hc6
    have hl5 := rising_len f c5 hc5.1 (fun x hx => (hc5.2 x).1 hx)
    clear ho6 hc5 hc6
    subst hcc
    go_wp2_with fail
    refine (sameLabels_at _ _ _ _ _ _ c5 w6 rfl rfl (hC5.kept hb6) hC6 (by omega)).mono ?_
    rintro e w7 ⟨rfl, hb7⟩
    have B7 := below_step B6 hb7
    go_wp2
    go_ret
    exact ⟨rfl, B7⟩
end Go.Proofs.Ytaikeeidjfcijaa
