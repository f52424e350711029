/- The calls of a wheel beside the law's map. -/
import Derived.Test.YtdpbkoohhnpjmaaWO1
namespace Go.Proofs.Ytdpbkoohhnpjmaa
open Go.RowKit Go.Sort Go.Shelf Go.Maps

section
variable {w wr : World} {b mb : Nat} {L M : List Th}
theorem once_set (h : Once w wr b mb L M) {id due : Int} (hf : FitT (due, id)) (hL : L.length < 4398046511104) : Calls Try.prog 13 #[.pointer (some ⟨b, 0, none⟩), .int .i64 id, .int .i64 due] wr fun e w' => e = .returned (.int .i64 0) ∧ Once w w' b mb (setA id due L) M := by
  obtain ⟨F, h1, h2, h3⟩ := h.wh
  refine (set_right h1 hf hL).mono ?_
  rintro e w' ⟨rfl, h4⟩
  exact ⟨rfl, h.out h2 h3 h4⟩
theorem once_set_no (h : Once w wr b mb L M) {id due : Int} (hf : id < 0 ∨ due < 0) : Calls Try.prog 13 #[.pointer (some ⟨b, 0, none⟩), .int .i64 id, .int .i64 due] wr fun e w' => e = .returned (.int .i64 1) ∧ Once w w' b mb L M := by
  obtain ⟨F, h1, h2, h3⟩ := h.wh
  refine (set_wrong h1 hf).mono ?_
  rintro e w' ⟨rfl, h4⟩
  exact ⟨rfl, h.out h2 h3 h4⟩
theorem once_clear (h : Once w wr b mb L M) {id : Int} (hf : Fit64 id) (hL : L.length ≤ 4398046511104) : Calls Try.prog 14 #[.pointer (some ⟨b, 0, none⟩), .int .i64 id] wr fun e w' => e = .returned (.bool (isSet id L)) ∧ Once w w' b mb (clr id L) M := by
  obtain ⟨F, h1, h2, h3⟩ := h.wh
  refine (clear_any h1 hf hL).mono ?_
  rintro e w' ⟨rfl, h4⟩
  exact ⟨rfl, h.out h2 h3 h4⟩
theorem once_len (h : Once w wr b mb L M) : Calls Try.prog 12 #[.pointer (some ⟨b, 0, none⟩)] wr fun e w' => e = .returned (.int .i64 (L.length : Int)) ∧ w' = wr := by
  obtain ⟨F, h1, h2, h3⟩ := h.wh
  exact wlen_any h1
theorem once_next (h : Once w wr b mb L M) : Calls Try.prog 16 #[.pointer (some ⟨b, 0, none⟩)] wr fun e w' => (∃ n is, e = .returned (.tuple #[.int .i64 n, .bool is]) ∧ NextA L n is) ∧ w' = wr := by
  obtain ⟨F, h1, h2, h3⟩ := h.wh
  exact wnext_any h1
/-- What is popped. -/
structure OPop (w wr w' : World) (b mb : Nat) (M out L' : List Th) (a : Option Addr) (c : Nat) : Prop where
  once : Once w w' b mb L' M
  row : Row w' 3 1 a out.length c (idC out)
  new : ∀ k, blk a = some k → k ≠ mb
theorem once_pop (h : Once w wr b mb L M) (now : Int) (hL : L.length ≤ 4398046511104) : Calls Try.prog 9 #[.pointer (some ⟨b, 0, none⟩), .int .i64 now] wr fun e w' => ∃ out L' a c, e = .returned (.slice a out.length c) ∧ Pops now L out L' ∧ OPop w wr w' b mb M out L' a c := by
  obtain ⟨F, h1, h2, h3⟩ := h.wh
  refine (wpop_any h1 now hL).mono ?_
  rintro e w' ⟨out, L', a, c, rfl, h4, h5⟩
  obtain ⟨F', h6, h7, h8⟩ := h5.wh
  refine ⟨out, L', a, c, rfl, h4, h.out h2 h3 ⟨h5.mod, F', h6, h7⟩, h5.row, fun k hk e => ?_⟩
  have := h5.new k hk
  have := h.mlt
  omega
end
theorem once_new {w w1 : World} {b : Nat} {F : Nat → Prop} (h1 : Wh w1 b F []) (h2 : ∀ k, F k → w.heap.size ≤ k) (h3 : Below w.heap.size w w1) : Once w (w1.alloc (.map #[] 0)) b w1.heap.size [] [] := by
  have hb := below_al w1 (.map #[] 0)
  refine ⟨⟨F, h1.below hb, h2, fun hk => ?_⟩, ⟨_, World.ownsMap_made w1 Try.prog 3 _, MapOf.nil _⟩, h3.size, h3.trans (hb.mono h3.size)⟩
  have := h1.lt _ hk
  omega
theorem rd_int {w : World} {a : Option Addr} {l : List Int} (h : Rd w a (iC l)) (i : Nat) (hi : i < l.length) : ∃ g o, a = some ⟨g, o, none⟩ ∧ w.cell? ⟨g, o + i, none⟩ = some (.int .i64 (l.getD i 0)) := h _ _ (iC_at l i hi)
theorem row_id {w : World} {a : Option Addr} {n c : Nat} {out : List Th} (h : Row w 3 1 a n c (idC out)) (i : Nat) (hi : i < out.length) : ∃ g, a = some ⟨g, 0, none⟩ ∧ w.cell? ⟨g, i, none⟩ = some (.int .i64 (tAt out i).2) := by
  have hl := h.len
  unfold idC at hl
  rw [iC_len, List.length_map] at hl
  obtain ⟨g, rfl, hc⟩ := h.cell i (by omega)
  refine ⟨g, rfl, ?_⟩
  rw [hc]
  unfold idC
  rw [iC_at _ _ (by simpa using hi), List.getD_eq_getElem?_getD, List.getElem?_map, tAt_get hi]
  rfl
theorem getD_mem {l : List Int} {i : Nat} (h : i < l.length) : l.getD i 0 ∈ l := by
  rw [List.getD_eq_getElem?_getD, List.getElem?_eq_getElem h]
  exact List.getElem_mem h

set_option maxRecDepth 100000 in
theorem once_long {w : World} {a0 a1 a2 : Option Addr} {n0 n1 n2 c0 c1 c2 : Nat} (hn : 1048576 < n0) :
    Calls Try.prog 5 #[.slice a0 n0 c0, .slice a1 n1 c1, .slice a2 n2 c2] w fun e w' => e = .returned (.bool true) ∧ Below w.heap.size w w' := by
  have h0 := @lnew w
  have h1 := fun W => fixed_any W
  have hn' : (1048576 : Int) < (n0 : Int) := by omega
  go_enter Try.func5, Try.ntmps5
  go_wp2_with (first
    | (go_at_call 7; refine h0.mono ?_; rintro e0 w0 ⟨b, rfl, l0⟩)
    | (go_at_call 6; refine (h1 _).mono ?_; rintro e1 w1 ⟨rfl, b1⟩))
  go_ret
  exact ⟨rfl, l0.bel.trans (b1.mono l0.bel.size)⟩
end Go.Proofs.Ytdpbkoohhnpjmaa
