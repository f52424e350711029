/- One wheel of the call's own; fixed; WheelNames. -/
import Derived.Test.YtdpbkoohhnpjmaaWWI
namespace Go.Proofs.Ytdpbkoohhnpjmaa
open Go.RowKit Go.Sort Go.Shelf Go.Maps

/-- A wheel that the call has made. -/
structure Live (w wr : World) (b : Nat) (L : List Th) : Prop where
  wh : ∃ F, Wh wr b F L ∧ ∀ k, F k → w.heap.size ≤ k
  bel : Below w.heap.size w wr
theorem Live.out {w wr w' : World} {b : Nat} {F : Nat → Prop} {L' : List Th} (hF : ∀ k, F k → w.heap.size ≤ k) (hb : Below w.heap.size w wr) (h : WhOut wr b F L' w') : Live w w' b L' := by
  obtain ⟨h1, F', h2, h3⟩ := h
  refine ⟨⟨F', h2, fun k hk => ?_⟩, hb.trans (h1.below hb.size (fun k _ hk => hF k hk))⟩
  rcases h3 k hk with h | h
  · exact hF k h
  · exact Nat.le_trans hb.size h
theorem Live.below {w wr w' : World} {b : Nat} {L : List Th} (h : Live w wr b L) (hb : Below wr.heap.size wr w') : Live w w' b L := by
  obtain ⟨F, h1, h2⟩ := h.wh
  exact ⟨⟨F, h1.below hb, h2⟩, h.bel.trans (hb.mono h.bel.size)⟩
theorem Live.good {w wr : World} {b : Nat} {L : List Th} (h : Live w wr b L) : GoodW L := by
  obtain ⟨F, h1, h2⟩ := h.wh
  exact h1.good
theorem lnew {w : World} : Calls Try.prog 7 #[] w fun e w' => ∃ b, e = .returned (.pointer (some ⟨b, 0, none⟩)) ∧ Live w w' b [] := by
  refine wnew_any.mono ?_
  rintro e w' ⟨b, F, rfl, h1, h2, h3⟩
  exact ⟨b, rfl, ⟨F, h1, h2⟩, h3⟩
theorem lset {w wr : World} {b : Nat} {L : List Th} (h : Live w wr b L) {id due : Int} (hf : FitT (due, id)) (hL : L.length < 4398046511104) : Calls Try.prog 13 #[.pointer (some ⟨b, 0, none⟩), .int .i64 id, .int .i64 due] wr fun e w' => e = .returned (.int .i64 0) ∧ Live w w' b (setA id due L) := by
  obtain ⟨F, h1, h2⟩ := h.wh
  refine (set_right h1 hf hL).mono ?_
  rintro e w' ⟨rfl, h3⟩
  exact ⟨rfl, Live.out h2 h.bel h3⟩
theorem lset_no {w wr : World} {b : Nat} {L : List Th} (h : Live w wr b L) {id due : Int} (hf : id < 0 ∨ due < 0) : Calls Try.prog 13 #[.pointer (some ⟨b, 0, none⟩), .int .i64 id, .int .i64 due] wr fun e w' => e = .returned (.int .i64 1) ∧ Live w w' b L := by
  obtain ⟨F, h1, h2⟩ := h.wh
  refine (set_wrong h1 hf).mono ?_
  rintro e w' ⟨rfl, h3⟩
  exact ⟨rfl, Live.out h2 h.bel h3⟩
theorem lclear {w wr : World} {b : Nat} {L : List Th} (h : Live w wr b L) {id : Int} (hf : Fit64 id) (hL : L.length ≤ 4398046511104) : Calls Try.prog 14 #[.pointer (some ⟨b, 0, none⟩), .int .i64 id] wr fun e w' => e = .returned (.bool (isSet id L)) ∧ Live w w' b (clr id L) := by
  obtain ⟨F, h1, h2⟩ := h.wh
  refine (clear_any h1 hf hL).mono ?_
  rintro e w' ⟨rfl, h3⟩
  exact ⟨rfl, Live.out h2 h.bel h3⟩
theorem llen {w wr : World} {b : Nat} {L : List Th} (h : Live w wr b L) : Calls Try.prog 12 #[.pointer (some ⟨b, 0, none⟩)] wr fun e w' => e = .returned (.int .i64 (L.length : Int)) ∧ w' = wr := by
  obtain ⟨F, h1, h2⟩ := h.wh
  exact wlen_any h1
theorem lnext {w wr : World} {b : Nat} {L : List Th} (h : Live w wr b L) : Calls Try.prog 16 #[.pointer (some ⟨b, 0, none⟩)] wr fun e w' => (∃ n is, e = .returned (.tuple #[.int .i64 n, .bool is]) ∧ NextA L n is) ∧ w' = wr := by
  obtain ⟨F, h1, h2⟩ := h.wh
  exact wnext_any h1
/-- What is popped, beside a wheel of the call's own. -/
structure LPop (w wr w' : World) (b : Nat) (out L' : List Th) (a : Option Addr) (c : Nat) : Prop where
  live : Live w w' b L'
  row : Row w' 3 1 a out.length c (idC out)
  new : ∀ k, blk a = some k → wr.heap.size ≤ k
theorem lpop {w wr : World} {b : Nat} {L : List Th} (h : Live w wr b L) (now : Int) (hL : L.length ≤ 4398046511104) : Calls Try.prog 9 #[.pointer (some ⟨b, 0, none⟩), .int .i64 now] wr fun e w' => ∃ out L' a c, e = .returned (.slice a out.length c) ∧ Pops now L out L' ∧ LPop w wr w' b out L' a c := by
  obtain ⟨F, h1, h2⟩ := h.wh
  refine (wpop_any h1 now hL).mono ?_
  rintro e w' ⟨out, L', a, c, rfl, h3, h4⟩
  obtain ⟨F', h5, h6, h7⟩ := h4.wh
  exact ⟨out, L', a, c, rfl, h3, Live.out h2 h.bel ⟨h4.mod, F', h5, h6⟩, h4.row, h4.new⟩

/-! ### fixed -/
theorem fix_next {n : Int} {is : Bool} (h : NextA [(10, 3), (10, 1), (5, 2)] n is) : n = 5 ∧ is = true := by
  rcases h with ⟨h, _⟩ | ⟨t, h, rfl, rfl⟩
  · cases h
  · have : t = (5, 2) := h.uniq (by unfold IsMin; decide)
    rw [this]
    exact ⟨rfl, rfl⟩
theorem fix_pops {out L' : List Th} (h : Pops 10 [(10, 3), (10, 1), (5, 2)] out L') : out = [(5, 2), (10, 1), (10, 3)] ∧ L' = [] := by
  refine h.det (Pops.one (m := (5, 2)) (by unfold IsMin; decide) (by decide) ?_)
  have e : clr 2 [(10, 3), (10, 1), (5, 2)] = [(10, 3), (10, 1)] := by decide
  rw [e]
  refine Pops.one (m := (10, 1)) (by unfold IsMin; decide) (by decide) ?_
  have e : clr 1 [(10, 3), (10, 1)] = [(10, 3)] := by decide
  rw [e]
  refine Pops.one (m := (10, 3)) (by unfold IsMin; decide) (by decide) ?_
  have e : clr 3 [(10, 3)] = [] := by decide
  rw [e]
  exact Pops.none
theorem fit_n {a b : Int} (h : 0 ≤ a ∧ a ≤ 100 ∧ 0 ≤ b ∧ b ≤ 100) : FitT (a, b) := ⟨⟨h.1, by show a ≤ _; omega⟩, h.2.2.1, by show b ≤ _; omega⟩

set_option maxRecDepth 100000 in
set_option maxHeartbeats 2000000 in
theorem fixed_any (w : World) : Calls Try.prog 6 #[] w fun e w' => e = .returned (.bool true) ∧ Below w.heap.size w w' := by
  have h0 := @lnew w
  go_enter Try.func6, Try.ntmps6
  go_upto_region 4 with (go_at_call 7; refine h0.mono ?_; rintro e0 w0 ⟨b, rfl, l0⟩)
  clear h0
  have h1 := lset l0 (id := 3) (due := 10) (fit_n (by omega)) (by simp)
  clear l0
  go_wp2_with fail
  refine h1.mono ?_
  rintro e1 w1 ⟨rfl, l1⟩
  have h2 := lset l1 (id := 1) (due := 10) (fit_n (by omega)) (by decide)
  clear h1 l1
  go_wp2_with fail
  refine h2.mono ?_
  rintro e2 w2 ⟨rfl, l2⟩
  have h3 := lset l2 (id := 2) (due := 5) (fit_n (by omega)) (by decide)
  clear h2 l2
  go_wp2_with fail
  refine h3.mono ?_
  rintro e3 w3 ⟨rfl, l3⟩
  have eL : setA 2 5 (setA 1 10 (setA 3 10 [])) = [(10, 3), (10, 1), (5, 2)] := by decide
  rw [eL] at l3
  have h4 := lset_no l3 (id := -1) (due := 5) (by omega)
  clear h3 l3 eL
  go_wp2_with fail
  refine h4.mono ?_
  rintro e4 w4 ⟨rfl, l4⟩
  clear h4
  have h5 := lnext l4
  go_upto_region 6 with (go_at_call 16; refine h5.mono ?_; rintro e5 w4 ⟨⟨nn, is, rfl, h5a⟩, rfl⟩; obtain ⟨rfl, rfl⟩ := fix_next h5a)
  have h6 : Calls Try.prog 9 #[.pointer (some ⟨b, 0, none⟩), .int .i64 10] w4 fun e w' => ∃ a c, e = .returned (.slice a 3 c) ∧ LPop w w4 w' b [(5, 2), (10, 1), (10, 3)] [] a c := (lpop l4 10 (by decide)).mono (by
    rintro e6 w6 ⟨out, L', a, c, rfl, h6a, h6b⟩
    obtain ⟨rfl, rfl⟩ := fix_pops h6a
    exact ⟨a, c, rfl, h6b⟩)
  clear l4 h5 h5a
  go_upto_region 7 with (go_at_call 9; refine h6.mono ?_; rintro e6 w6 ⟨a, c, rfl, h6b⟩)
  have h7 := llen h6b.live
  obtain ⟨g, rfl, y0⟩ := h6b.row.cell 0 (by decide)
  obtain ⟨g', e', y1⟩ := h6b.row.cell 1 (by decide)
  cases e'
  obtain ⟨g', e', y2⟩ := h6b.row.cell 2 (by decide)
  cases e'
  replace y0 : w6.cell? ⟨g, 0, none⟩ = some (.int .i64 2) := y0
  replace y1 : w6.cell? ⟨g, 1, none⟩ = some (.int .i64 1) := y1
  replace y2 : w6.cell? ⟨g, 2, none⟩ = some (.int .i64 3) := y2
  have HB := hd h6b.live.bel
  simp only [List.length_nil] at h7
  clear h6 h6b
  go_wp2_with (first | (go_at_call 12; refine h7.mono ?_; rintro e7 w7 ⟨rfl, rfl⟩))
  go_ret
  exact ⟨rfl, HB.out⟩

theorem wheelNames_walk (w : World) : Calls Try.prog 3 #[] w fun e w' => e = .returned (.bool true) ∧ Below w.heap.size w w' := by
  have h := fixed_any w
  go_enter Try.func3, Try.ntmps3
  go_wp2_with (go_at_call 6; refine h.mono ?_; rintro e1 w1 ⟨rfl, b1⟩)
  go_ret
  exact ⟨rfl, b1⟩
end Go.Proofs.Ytdpbkoohhnpjmaa
