/- Locks of the call's own; fixed. -/
import Derived.Test.YtdihbbpndijdoaaKWE
namespace Go.Proofs.Ytdihbbpndijdoaa
open Go.RowKit Go.Maps

/-- Locks of the call's own: all their blocks are new. -/
def Liv (w wr : World) (b : Nat) (os : List Int) (qs : Qs) : Prop := ∃ F, Lk wr b F os qs ∧ (∀ k, F k → w.heap.size ≤ k) ∧ Below w.heap.size w wr
section
variable {w wr w' : World} {b : Nat} {os os' : List Int} {qs qs' : Qs}
theorem Liv.good (h : Liv w wr b os qs) : GoodL os qs := by
  obtain ⟨F, h1, _⟩ := h
  exact h1.good
theorem Liv.bel (h : Liv w wr b os qs) : Below w.heap.size w wr := by
  obtain ⟨F, h1, h2, h3⟩ := h
  exact h3
theorem Liv.below (h : Liv w wr b os qs) (hb : Below wr.heap.size wr w') : Liv w w' b os qs := by
  obtain ⟨F, h1, h2, h3⟩ := h
  exact ⟨F, h1.below hb, h2, h3.trans (hb.mono h3.size)⟩
theorem Liv.out {F : Nat → Prop} (hF : ∀ k, F k → w.heap.size ≤ k) (hb : Below w.heap.size w wr) (h : LkOut wr b F os' qs' w') : Liv w w' b os' qs' := by
  obtain ⟨h1, F', h2, h3⟩ := h
  refine ⟨F', h2, fun k hk => ?_, hb.trans (h1.below hb.size (fun k _ hk => hF k hk))⟩
  rcases h3 k hk with h4 | h4
  · exact hF k h4
  · exact Nat.le_trans hb.size h4
theorem Liv.take (h : Liv w wr b os qs) (ht : total qs < 6000000000000) (lock : Int) {p : Int} (hp : Fit64 p) :
    Calls Try.prog 17 #[.pointer (some ⟨b, 0, none⟩), .int .i64 lock, .int .i64 p] wr fun e w' => e = .returned (.tuple #[.bool (takeR os qs lock p).1, .int .i64 (takeR os qs lock p).2]) ∧ Liv w w' b (takeO os qs lock p) (takeQ os qs lock p) := by
  obtain ⟨F, h1, h2, h3⟩ := h
  refine (take_any h1 ht lock hp).mono ?_
  rintro e w' ⟨rfl, h4⟩
  exact ⟨rfl, Liv.out h2 h3 h4⟩
theorem Liv.give (h : Liv w wr b os qs) (ht : total qs ≤ 8796093022208) (lock p : Int) :
    Calls Try.prog 18 #[.pointer (some ⟨b, 0, none⟩), .int .i64 lock, .int .i64 p] wr fun e w' => e = .returned (.tuple #[.int .i64 (giveR os qs lock p).1, .int .i64 (giveR os qs lock p).2]) ∧ Liv w w' b (giveO os qs lock p) (giveQ os qs lock p) := by
  obtain ⟨F, h1, h2, h3⟩ := h
  refine (give_any h1 ht lock p).mono ?_
  rintro e w' ⟨rfl, h4⟩
  exact ⟨rfl, Liv.out h2 h3 h4⟩
theorem Liv.new {n : Nat} {e : Ending} (h : NewOut w n e w') : ∃ b, e = .returned (.tuple #[.pointer (some ⟨b, 0, none⟩), .int .i64 0]) ∧ Liv w w' b (List.replicate n (-1)) (List.replicate n []) := by
  obtain ⟨h1, b, F, h2, h3, h4⟩ := h
  exact ⟨b, h2, F, h3, h4, h1⟩
end

theorem fix1 : takeR (List.replicate 2 (-1)) (List.replicate 2 []) 0 5 = (true, 0) ∧ takeO (List.replicate 2 (-1)) (List.replicate 2 []) 0 5 = [5, -1] ∧ takeQ (List.replicate 2 (-1)) (List.replicate 2 []) 0 5 = [[], []] := by decide
theorem fix2 : takeR [5, -1] [[], []] 0 6 = (false, 0) ∧ takeO [5, -1] [[], []] 0 6 = [5, -1] ∧ takeQ [5, -1] [[], []] 0 6 = [[6], []] := by decide
theorem fix3 : takeR [5, -1] [[6], []] 1 6 = (false, 20) ∧ takeO [5, -1] [[6], []] 1 6 = [5, -1] ∧ takeQ [5, -1] [[6], []] 1 6 = [[6], []] := by decide
theorem fix4 : giveR [5, -1] [[6], []] 0 5 = (6, 0) ∧ giveO [5, -1] [[6], []] 0 5 = [6, -1] ∧ giveQ [5, -1] [[6], []] 0 5 = [[], []] := by decide
theorem fix5 : takeR [6, -1] [[], []] 2 1 = (false, 2) := by decide

set_option maxRecDepth 100000 in
set_option maxHeartbeats 2000000 in
theorem fixed_any {w : World} : Calls Try.prog 7 #[] w fun e w' => e = .returned (.bool true) ∧ Below w.heap.size w w' := by
  have hnew := new_any (w := w) (n := 2) (by omega)
  have hnew : Calls Try.prog 8 #[.int .i64 2] w (NewOut w 2) := hnew
  go_enter Try.func7, Try.ntmps7
  go_upto_region 4 with (first | (go_at_call 8; refine hnew.mono ?_; rintro e1 w1 h1
                                  obtain ⟨b, rfl, h1'⟩ := Liv.new h1
                                  have H1 := hd h1'
                                  clear h1 h1'))
  have ht1 := H1.out.take (by decide) 0 (p := 5) ⟨by decide, by decide⟩
  rw [fix1.1, fix1.2.1, fix1.2.2] at ht1
  clear hnew
  go_upto_region 5 with (first | (go_at_call 17; refine ht1.mono ?_; rintro e2 w2 ⟨rfl, h2⟩
                                  have H2 := hd h2
                                  clear h2))
  have ht2 := H2.out.take (by decide) 0 (p := 6) ⟨by decide, by decide⟩
  rw [fix2.1, fix2.2.1, fix2.2.2] at ht2
  clear ht1 H1
  go_upto_region 6 with (first | (go_at_call 17; refine ht2.mono ?_; rintro e3 w3 ⟨rfl, h3⟩
                                  have H3 := hd h3
                                  clear h3))
  have ht3 := H3.out.take (by decide) 1 (p := 6) ⟨by decide, by decide⟩
  rw [fix3.1, fix3.2.1, fix3.2.2] at ht3
  clear ht2 H2
  go_upto_region 7 with (first | (go_at_call 17; refine ht3.mono ?_; rintro e4 w4 ⟨rfl, h4⟩
                                  have H4 := hd h4
                                  clear h4))
  have ht4 := H4.out.give (by decide) 0 5
  rw [fix4.1, fix4.2.1, fix4.2.2] at ht4
  clear ht3 H3
  go_upto_region 8 with (first | (go_at_call 18; refine ht4.mono ?_; rintro e5 w5 ⟨rfl, h5⟩
                                  have H5 := hd h5
                                  clear h5))
  have ht5 := H5.out.take (by decide) 2 (p := 1) ⟨by decide, by decide⟩
  rw [fix5] at ht5
  clear ht4 H4
  go_wp2_with (first | (go_at_call 17; refine ht5.mono ?_; rintro e6 w6 ⟨rfl, h6⟩
                        have H6 := hd h6.bel
                        clear h6))
  go_ret
  exact ⟨rfl, H6.out⟩

theorem locksNames_walk {w : World} : Calls Try.prog 3 #[] w fun e w' => e = .returned (.bool true) ∧ Below w.heap.size w w' := by
  have hfx := fixed_any (w := w)
  go_enter Try.func3, Try.ntmps3
  go_wp2_with (first | (go_at_call 7; refine hfx.mono ?_; rintro e1 w1 ⟨rfl, h1⟩))
  go_ret
  exact ⟨rfl, h1⟩
end Go.Proofs.Ytdihbbpndijdoaa
