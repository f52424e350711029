/- step: Pop; all of it. -/
import Derived.Test.YtdpbkoohhnpjmaaWT3
namespace Go.Proofs.Ytdpbkoohhnpjmaa
open Go.RowKit Go.Sort Go.Shelf Go.Maps

theorem PrOut.join2 {w w1 w2 w3 w4 : World} {b1 b2 : Nat} {F F1 F2 G1 S : Nat → Prop} {L' : List Th} (hd : ∀ k, F1 k → ¬ F2 k) (hF : ∀ k, F1 k ∨ F2 k → F k) (hl : ∀ k, F k → k < w.heap.size) (m1 : Mod F1 w w1) (g1 : Wh w1 b1 G1 L') (n1 : ∀ k, G1 k → F1 k ∨ w.heap.size ≤ k) (h2 : RfOut w1 b2 F2 L' w2) (hb : Below w2.heap.size w2 w3) (hm : Mod S w3 w4) (hS : ∀ k, S k → w.heap.size ≤ k ∧ k < w1.heap.size ∧ ¬ G1 k) : PrOut w b1 b2 F L' w4 := by
  obtain ⟨m2, G2, g2, n2⟩ := h2
  have hG1 : ∀ k, G1 k → ¬ F2 k := fun k hk hf => by
    rcases n1 k hk with h | h
    · exact hd k h hf
    · have := hl k (hF k (.inr hf)); omega
  have hG2 : ∀ k, G2 k → ¬ S k := fun k hk hs => by
    have h3 := hS k hs
    rcases n2 k hk with h | h
    · have := hl k (hF k (.inr h)); omega
    · omega
  have g1' : Wh w4 b1 G1 L' := ((g1.mod m2 hG1).below hb).mod hm (fun k hk hs => (hS k hs).2.2 hk)
  have g2' : Rf w4 b2 G2 L' := (g2.below hb).mod hm hG2
  refine ⟨((((m1.mono (fun k _ hk => hF k (.inl hk))).trans m2 (fun k hk => .inl (hF k (.inr hk)))).after hb).trans hm (fun k hk => .inr (hS k hk).1)), fun k => G1 k ∨ G2 k, ⟨G1, G2, g1', g2', fun k hk hk2 => ?_, fun _ h => h, fun k hk => ?_⟩, fun k hk => ?_⟩
  · rcases n2 k hk2 with h | h
    · exact hG1 k hk h
    · have h3 := g1.lt k hk
      omega
  · rcases hk with hk | hk
    · exact g1'.lt k hk
    · obtain ⟨_, _, _, _, h5⟩ := g2'
      exact h5 k hk
  · rcases hk with hk | hk
    · rcases n1 k hk with h | h
      · exact .inl (hF k (.inl h))
      · exact .inr h
    · rcases n2 k hk with h | h
      · exact .inl (hF k (.inr h))
      · exact .inr (Nat.le_trans m1.size h)

set_option maxRecDepth 100000 in
set_option maxHeartbeats 2000000 in
theorem step_pop {w : World} {b1 b2 : Nat} {F : Nat → Prop} {L : List Th} (h : Pr w b1 b2 F L) (hL : L.length < 4398046511104) {on id at' : Int} :
    Calls Try.prog 8 #[.pointer (some ⟨b1, 0, none⟩), .pointer (some ⟨b2, 0, none⟩), .agg #[.int .i64 5, .int .i64 on, .int .i64 id, .int .i64 at']] w fun e w' => e = .returned (.bool true) ∧ StepOut w b1 b2 F L w' := by
  have HH := hd h
  have hbx : OpBox (w.alloc (.cells #[.int .i64 5, .int .i64 on, .int .i64 id, .int .i64 at'] 33)) w.heap.size 5 on id at' := ⟨heap_alloc_new w _⟩
  have hb0 := below_al w (.cells #[.int .i64 5, .int .i64 on, .int .i64 id, .int .i64 at'] 33)
  have hlt := h.lt
  have hG := hd h.good
  clear h
  go_enter Try.func8, Try.ntmps8
  go_upto_region 11 with fail
  obtain ⟨w0, hw0⟩ : ∃ W, Hid (w.alloc (.cells #[.int .i64 5, .int .i64 on, .int .i64 id, .int .i64 at'] 33) = W) := ⟨_, rfl⟩
  obtain ⟨G, hGn⟩ : ∃ G, Hid (w.heap.size = G) := ⟨_, rfl⟩
  rw [hw0.out] at hbx hb0 ⊢
  rw [hGn.out] at hbx ⊢
  obtain ⟨F1, F2, hW, hRf, hdis, hFF, hFl⟩ := HH.out.below hb0
  have hGF : ¬ F G := fun hf => by have := hlt G hf; have := hGn.out; omega
  have hs1 := wpop_any hW at' (by omega)
  obtain ⟨q0, q1, q2, q3⟩ := hbx.cells
  have HBX := hd hbx
  have HRF := hd hRf
  clear hbx hRf hw0 hlt
  go_upto_region 12 with (go_at_call 9; refine hs1.mono ?_; rintro e1 w1 ⟨out, L', a, c, rfl, hPs, hP⟩)
  have hR1 : Rf w1 b2 F2 L := HRF.out.mod hP.mod (fun k hk hf => hdis k hf hk)
  have y3 := (HBX.out.mod hP.mod (fun hf => hGF (hFF G (.inl hf)))).cells.2.2.2
  have hs2 := rpop_any hR1 hG.out at' (by omega)
  have HP := hd hP
  have HPS := hd hPs
  have hlen : out.length + L'.length = L.length := hPs.len hG.out
  obtain ⟨N, hN⟩ : ∃ N, Hid (out.length = N) := ⟨_, rfl⟩
  have hNb : N ≤ 8796093022208 := by have := hN.out; omega
  have HLL : Hid (L'.length ≤ L.length + 1) := hd (by omega)
  rw [hN.out]
  clear hs1 hR1 hP hPs q0 q1 q2 q3 hlen HBX
  have hsame : ∀ (w2 : World) a2 c2, RPopTo w1 b2 F2 w2 out L' a2 c2 → Calls Try.prog 10 #[.slice a N c, .slice a2 N c2] w2 fun e w' => e = .returned (.bool true) ∧ Below w2.heap.size w2 w' := fun w2 a2 c2 hR => by
    have r1 := HP.out.row.mod hR.mod (fun k hk hf => by have h3 := HP.out.new k hk; have h4 := hFl k (hFF k (.inr hf)); omega)
    have r2 := hR.row
    rw [hN.out] at r1 r2
    exact same_any r1 r2 hNb
  have hown : ∀ (w2 w3 : World) a2 c2, RPopTo w1 b2 F2 w2 out L' a2 c2 → Below w2.heap.size w2 w3 → Calls Try.prog 21 #[.slice a N c] w3 fun e w' => e = .returned (.tuple #[]) ∧ Mod (fun k => blk a = some k) w3 w' := fun w2 w3 a2 c2 hR hb => by
    have r1 := (HP.out.row.mod hR.mod (fun k hk hf => by have h3 := HP.out.new k hk; have h4 := hFl k (hFF k (.inr hf)); omega)).below hb
    rw [hN.out] at r1
    exact own_any r1 hNb
  have HE : Hid (∀ (w2 w3 w4 : World) a2 c2, RPopTo w1 b2 F2 w2 out L' a2 c2 → Below w2.heap.size w2 w3 → Mod (fun k => blk a = some k) w3 w4 → StepOut w b1 b2 F L w4) := hd (fun w2 w3 w4 a2 c2 hR hb hm => by
    obtain ⟨G1, g1, n1, d1⟩ := HP.out.wh
    obtain ⟨G2, g2, n2, d2⟩ := hR.wh
    exact ⟨L', HLL.out, PrOut.ofBelow hb0 (PrOut.join2 hdis hFF hFl HP.out.mod g1 n1 ⟨hR.mod, G2, g2, n2⟩ hb hm (fun k hk => ⟨HP.out.new k hk, HP.out.row.lt k hk, d1 k hk⟩))⟩)
  have hs2' : Calls Try.prog 11 #[.pointer (some ⟨b2, 0, none⟩), .int .i64 at'] w1 fun e w' => ∃ a2 c2, e = .returned (.slice a2 N c2) ∧ RPopTo w1 b2 F2 w' out L' a2 c2 := hs2.mono (by
    rintro e2 w2 ⟨out2, L2, a2, c2, rfl, hPs2, hP2⟩
    obtain ⟨rfl, rfl⟩ := HPS.out.det hPs2
    exact ⟨a2, c2, by rw [hN.out], hP2⟩)
  clear hs2 HP HPS HRF hFF hFl hdis
  go_wp2_with (first
    | (go_at_call 11; refine hs2'.mono ?_; rintro e2 w2 ⟨a2, c2, rfl, hP2⟩)
    | (go_at_call 10; refine (hsame _ _ _ hP2).mono ?_; rintro e3 w3 ⟨rfl, b3⟩)
    | (go_at_call 21; refine (hown _ _ _ _ hP2 b3).mono ?_; rintro e4 w4 ⟨rfl, m4⟩))
  go_ret
  exact ⟨rfl, HE.out _ _ _ _ _ hP2 b3 m4⟩

theorem step_any {w : World} {b1 b2 : Nat} {F : Nat → Prop} {L : List Th} (h : Pr w b1 b2 F L) (hL : L.length < 4398046511104) {kd on id at' : Int} (hi : Fit64 id) (ha : Fit64 at') :
    Calls Try.prog 8 #[.pointer (some ⟨b1, 0, none⟩), .pointer (some ⟨b2, 0, none⟩), .agg #[.int .i64 kd, .int .i64 on, .int .i64 id, .int .i64 at']] w fun e w' => e = .returned (.bool true) ∧ StepOut w b1 b2 F L w' := by
  by_cases k2 : kd = 2
  · subst k2; exact step_set h hL hi ha
  · by_cases k3 : kd = 3
    · subst k3; exact step_clear h hL hi
    · by_cases k4 : kd = 4
      · subst k4; exact step_due h hL hi
      · by_cases k5 : kd = 5
        · subst k5; exact step_pop h hL
        · exact step_next h hL ⟨k2, k3, k4, k5⟩
end Go.Proofs.Ytdpbkoohhnpjmaa
