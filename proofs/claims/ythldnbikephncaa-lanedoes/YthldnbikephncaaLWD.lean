/- One lane of the call's own; fixed. -/
import Derived.Test.YthldnbikephncaaLWC
import Derived.Test.YthldnbikephncaaLM2
namespace Go.Proofs.Ythldnbikephncaa
open Go.RowKit

/-- A lane of the call's own. -/
def Liv (B : Nat) (w0 w : World) (T : TypeId) (b : Nat) (s : LS) : Prop := ∃ F, Ln w T b F s ∧ (∀ k, F k → B ≤ k) ∧ Below B w0 w ∧ B ≤ w.heap.size

theorem Made.liv {w w' : World} {T : TypeId} {s : LS} {E : Ending} {B : Nat} {w0 : World} (h : Made w T s E w') (hb : Below B w0 w) (hB : B ≤ w.heap.size) : ∃ b, E = .returned (.tuple #[.pointer (some ⟨b, 0, none⟩), .int .i64 0]) ∧ Liv B w0 w' T b s := by
  obtain ⟨b, F, h1, h2, h3, h4⟩ := h
  exact ⟨b, h1, F, h2, fun k hk => Nat.le_trans hB (h3 k hk), hb.trans (h4.mono hB), Nat.le_trans hB h4.size⟩
theorem Liv.out {B : Nat} {w0 w w' : World} {T : TypeId} {b : Nat} {s' : LS} {F : Nat → Prop} (hL : ∀ k, F k → B ≤ k) (hb : Below B w0 w) (hB : B ≤ w.heap.size) (h : LnOut w T b F s' w') : Liv B w0 w' T b s' := by
  obtain ⟨h1, F', h2, h3⟩ := h
  refine ⟨F', h2, fun k hk => ?_, hb.trans (h1.below hB (fun k _ hk => hL k hk)), Nat.le_trans hB h1.size⟩
  rcases h3 k hk with h | h
  · exact hL k h
  · omega
theorem Liv.bel {B : Nat} {w0 w w' : World} {T : TypeId} {b : Nat} {s : LS} (h : Liv B w0 w T b s) (hb : Below w.heap.size w w') : Liv B w0 w' T b s := by
  obtain ⟨F, h1, h2, h3, h4⟩ := h
  exact ⟨F, h1.below hb, h2, h3.trans (hb.mono h4), Nat.le_trans h4 hb.size⟩
theorem Liv.below {B : Nat} {w0 w : World} {T : TypeId} {b : Nat} {s : LS} (h : Liv B w0 w T b s) : Below B w0 w := by
  obtain ⟨F, h1, h2, h3, h4⟩ := h
  exact h3

section
variable {B : Nat} {w0 w : World} {b : Nat} {s : LS}
theorem put_liv (h : Liv B w0 w 60 b s) (hg : Good s) (v : Int) : Calls Try.prog 16 #[.pointer (some ⟨b, 0, none⟩), .int .i64 v] w fun e w' => e = .returned (.int .i64 (putL s v).1) ∧ Liv B w0 w' 60 b (putL s v).2 := by
  obtain ⟨F, h1, h2, h3, h4⟩ := h
  exact (put_any h1 hg v).mono fun e w' ⟨k1, k2⟩ => ⟨k1, Liv.out h2 h3 h4 k2⟩
theorem wait_liv (h : Liv B w0 w 60 b s) (p v : Int) (hn : s.ws.length ≤ 7000000000000) : Calls Try.prog 17 #[.pointer (some ⟨b, 0, none⟩), .int .i64 p, .int .i64 v] w fun e w' => e = .returned (.int .i64 (waitL s p v).1) ∧ Liv B w0 w' 60 b (waitL s p v).2 := by
  obtain ⟨F, h1, h2, h3, h4⟩ := h
  exact (wait_any h1 p v hn).mono fun e w' ⟨k1, k2⟩ => ⟨k1, Liv.out h2 h3 h4 k2⟩
theorem take_liv (h : Liv B w0 w 60 b s) (hg : Good s) (hn : s.ws.length ≤ 8000000000000) : Calls Try.prog 18 #[.pointer (some ⟨b, 0, none⟩)] w fun e w' => e = .returned (tkV (takeL s).1) ∧ Liv B w0 w' 60 b (takeL s).2 := by
  obtain ⟨F, h1, h2, h3, h4⟩ := h
  exact (take_any h1 hg hn).mono fun e w' ⟨k1, k2⟩ => ⟨k1, Liv.out h2 h3 h4 k2⟩
theorem len_liv (h : Liv B w0 w 60 b s) : Calls Try.prog 19 #[.pointer (some ⟨b, 0, none⟩)] w fun e w' => e = .returned (.int .i64 s.vs.length) ∧ w' = w := by
  obtain ⟨F, h1, h2, h3, h4⟩ := h
  exact len_any h1
theorem end_liv (h : Liv B w0 w 60 b s) (hn : s.ws.length ≤ 8000000000000) : Calls Try.prog 20 #[.pointer (some ⟨b, 0, none⟩)] w fun e w' => ∃ g, e = .returned (.slice (some ⟨g, 0, none⟩) s.ws.length s.ws.length) ∧ Below B w0 w' := by
  obtain ⟨F, h1, h2, h3, h4⟩ := h
  exact (end_any h1 hn).mono fun e w' ⟨g, k1, _, _, k4, _⟩ => ⟨g, k1, h3.trans (k4.below h4 (fun k _ hk => h2 k hk))⟩
end

set_option maxRecDepth 100000 in
set_option maxHeartbeats 2000000 in
theorem fixed_any (w : World) : Calls Try.prog 5 #[] w fun e w' => e = .returned (.bool true) ∧ Below w.heap.size w w' := by
  have hN := new_ok (w := w) (room := 1) (by omega) (by omega)
  rw [show ((1 : Nat) : Int) = 1 from rfl] at hN
  have g0 : Good (LS.new 1) := good_new (by omega) (by omega)
  have g1 := g0.put 5
  have g2 := g1.put 6
  have g3 := g2.wait (p := 3) (by unfold Fit64; omega) 9
  have G0 := hd g0
  have G1 := hd g1
  have G3 := hd g3
  have hP1 := fun b W (h : Liv w.heap.size w W 60 b (LS.new 1)) => put_liv h G0.out 5
  have hP2 := fun b W (h : Liv w.heap.size w W 60 b (putL (LS.new 1) 5).2) => put_liv h G1.out 6
  have hW := fun b W (h : Liv w.heap.size w W 60 b (putL (putL (LS.new 1) 5).2 6).2) => wait_liv h 3 9 (by decide)
  have hT := fun b W (h : Liv w.heap.size w W 60 b (waitL (putL (putL (LS.new 1) 5).2 6).2 3 9).2) => take_liv h G3.out (by decide)
  have e1 : (putL (LS.new 1) 5).1 = 0 := by decide
  have e2 : (putL (putL (LS.new 1) 5).2 6).1 = 19 := by decide
  have e3 : (waitL (putL (putL (LS.new 1) 5).2 6).2 3 9).1 = 0 := by decide
  have e4 : (takeL (waitL (putL (putL (LS.new 1) 5).2 6).2 3 9).2).1 = (5, (3, 9), true, 0) := by decide
  have e5 : (((takeL (waitL (putL (putL (LS.new 1) 5).2 6).2 3 9).2).2.vs.length : Nat) : Int) = 1 := by decide
  obtain ⟨s1, hs1⟩ : ∃ s, Hid ((putL (LS.new 1) 5).2 = s) := ⟨_, rfl⟩
  rw [hs1.out] at hP2 hW hT e2 e3 e4 e5
  obtain ⟨s2, hs2⟩ : ∃ s, Hid ((putL s1 6).2 = s) := ⟨_, rfl⟩
  rw [hs2.out] at hW hT e3 e4 e5
  obtain ⟨s3, hs3⟩ : ∃ s, Hid ((waitL s2 3 9).2 = s) := ⟨_, rfl⟩
  rw [hs3.out] at hT e4 e5
  obtain ⟨s4, hs4⟩ : ∃ s, Hid ((takeL s3).2 = s) := ⟨_, rfl⟩
  rw [hs4.out] at e5
  rw [e1, hs1.out] at hP1
  rw [e2, hs2.out] at hP2
  rw [e3, hs3.out] at hW
  rw [e4, hs4.out] at hT
  have hL := fun b W (h : Liv w.heap.size w W 60 b s4) => len_liv h
  rw [e5] at hL
  unfold tkV at hT
  simp only at hT
  clear e1 e2 e3 e4 e5 g0 g1 g2 g3 G0 G1 G3 hs1 hs2 hs3 hs4
  go_enter Try.func5, Try.ntmps5
  go_upto_region 4 with (first | (go_at_call 12; refine hN.mono ?_; rintro e1 w1 hm; obtain ⟨b, rfl, L1⟩ := hm.liv (below_same w) (Nat.le_refl _); clear hm; have h1 := hP1 b w1 L1; clear L1))
  go_upto_region 5 with (first | (go_at_call 16; refine h1.mono ?_; rintro e2 w2 ⟨rfl, L2⟩; clear h1; have h2 := hP2 b w2 L2; clear L2))
  go_upto_region 6 with (first | (go_at_call 16; refine h2.mono ?_; rintro e3 w3 ⟨rfl, L3⟩; clear h2; have h3 := hW b w3 L3; clear L3))
  go_upto_region 7 with (first | (go_at_call 17; refine h3.mono ?_; rintro e4 w4 ⟨rfl, L4⟩; clear h3; have h4 := hT b w4 L4; clear L4))
  go_upto_region 8 with (first | (go_at_call 18; refine h4.mono ?_; rintro e5 w5 ⟨rfl, L5⟩; clear h4; have h5 := fun o => hL b _ (L5.bel (below_al w5 o)); have hb5 := hd (L5.bel (below_al w5 (.cells #[.int .i64 3, .int .i64 9] 50))).below; clear L5))
  go_wp2_with (first | (go_at_call 19; refine (h5 _).mono ?_; rintro e6 w6 ⟨rfl, rfl⟩))
  go_ret
  exact ⟨rfl, hb5.out⟩
end Go.Proofs.Ythldnbikephncaa
