/- Lanes of the call's own; fixed; long. -/
import Derived.Test.YtknklbojcnhjcaaPW6
import Derived.Test.YtknklbojcnhjcaaPWC
namespace Go.Proofs.Ytknklbojcnhjcaa
open Go.RowKit

/-- Lanes of the call's own. -/
def LivP (B : Nat) (w0 w : World) (b : Nat) (ss : List LS) (cur : Nat) : Prop := ∃ F, Ps w 59 89 60 b F ss cur ∧ (∀ k, F k → B ≤ k) ∧ Below B w0 w ∧ B ≤ w.heap.size
section
variable {B : Nat} {w0 w w' : World} {b : Nat} {ss : List LS} {cur : Nat}
theorem MadeP.liv {E : Ending} (h : MadeP w 59 89 60 ss cur E w') (hb : Below B w0 w) (hB : B ≤ w.heap.size) : ∃ b, E = .returned (.tuple #[.pointer (some ⟨b, 0, none⟩), .int .i64 0]) ∧ LivP B w0 w' b ss cur := by
  obtain ⟨b, F, h1, h2, h3, h4⟩ := h
  exact ⟨b, h1, F, h2, fun k hk => Nat.le_trans hB (h3 k hk), hb.trans (h4.mono hB), Nat.le_trans hB h4.size⟩
theorem LivP.out {F : Nat → Prop} (hL : ∀ k, F k → B ≤ k) (hb : Below B w0 w) (hB : B ≤ w.heap.size) (h : PsOut w 59 89 60 b F ss cur w') : LivP B w0 w' b ss cur := by
  obtain ⟨h1, F', h2, h3⟩ := h
  refine ⟨F', h2, fun k hk => ?_, hb.trans (h1.below hB (fun k _ hk => hL k hk)), Nat.le_trans hB h1.size⟩
  rcases h3 k hk with h | h
  · exact hL k h
  · omega
theorem LivP.bel (h : LivP B w0 w b ss cur) (hb : Below w.heap.size w w') : LivP B w0 w' b ss cur := by
  obtain ⟨F, h1, h2, h3, h4⟩ := h
  exact ⟨F, h1.below hb, h2, h3.trans (hb.mono h4), Nat.le_trans h4 hb.size⟩
theorem LivP.below (h : LivP B w0 w b ss cur) : Below B w0 w := by
  obtain ⟨F, h1, h2, h3, h4⟩ := h
  exact h3
theorem put_livp (h : LivP B w0 w b ss cur) (hg : GoodP ss cur) (lane v : Int) : Calls Try.prog 17 #[.pointer (some ⟨b, 0, none⟩), .int .i64 lane, .int .i64 v] w fun e w' => e = .returned (.int .i64 (putP ss lane v).1) ∧ LivP B w0 w' b (putP ss lane v).2 cur := by
  obtain ⟨F, h1, h2, h3, h4⟩ := h
  exact (pput_any h1 hg lane v).mono fun e w' ⟨k1, k2⟩ => ⟨k1, LivP.out h2 h3 h4 k2⟩
theorem take_livp (h : LivP B w0 w b ss cur) (hg : GoodP ss cur) (hn : FewP ss 8000000000000) : Calls Try.prog 18 #[.pointer (some ⟨b, 0, none⟩)] w fun e w' => e = .returned (ptkV (takeP ss cur).1) ∧ LivP B w0 w' b (takeP ss cur).2.1 (takeP ss cur).2.2 := by
  obtain ⟨F, h1, h2, h3, h4⟩ := h
  exact (ptake_any h1 hg hn).mono fun e w' ⟨k1, k2⟩ => ⟨k1, LivP.out h2 h3 h4 k2⟩
theorem some_livp (h : LivP B w0 w b ss cur) (hn : ss.length ≤ 9) : Calls Try.prog 19 #[.pointer (some ⟨b, 0, none⟩)] w fun e w' => e = .returned (.bool (someP ss)) ∧ LivP B w0 w' b ss cur := by
  obtain ⟨F, h1, h2, h3, h4⟩ := h
  exact (psome_any h1 hn).mono fun e w' ⟨k1, k2⟩ => ⟨k1, LivP.bel ⟨F, h1, h2, h3, h4⟩ k2⟩
end
theorem goodP_new {n room : Nat} (h1 : 1 ≤ n) (h2 : n ≤ 9) (hr1 : 1 ≤ room) (hr2 : room ≤ 64) : GoodP (List.replicate n (LS.new room)) 0 :=
  ⟨by simpa using h1, by simpa using h2, by simp; omega, fun s hs => by rw [(List.mem_replicate.1 hs).2]; exact good_new hr1 hr2⟩

set_option maxRecDepth 100000 in
set_option maxHeartbeats 2000000 in
theorem fixed_any (w : World) : Calls Try.prog 5 #[] w fun e w' => e = .returned (.bool true) ∧ Below w.heap.size w w' := by
  have hN := pnew_ok (w := w) (n := 3) (room := 2) (by omega) (by omega) (by omega) (by omega)
  rw [show ((3 : Nat) : Int) = 3 from rfl, show ((2 : Nat) : Int) = 2 from rfl] at hN
  have g0 : GoodP (List.replicate 3 (LS.new 2)) 0 := goodP_new (by omega) (by omega) (by omega) (by omega)
  have g1 := g0.put 0 5
  have g2 := g1.put 0 6
  have g3 := g2.put 2 7
  have g4 := g3.take
  have G0 := hd g0
  have G1 := hd g1
  have G2 := hd g2
  have G3 := hd g3
  have G4 := hd g4
  have e1 : putP (List.replicate 3 (LS.new 2)) 0 5 = (0, [⟨2, [5], [], 0, 0⟩, LS.new 2, LS.new 2]) := by rfl
  have e2 : putP [⟨2, [5], [], 0, 0⟩, LS.new 2, LS.new 2] 0 6 = (0, [⟨2, [5, 6], [], 0, 0⟩, LS.new 2, LS.new 2]) := by rfl
  have e3 : putP [⟨2, [5, 6], [], 0, 0⟩, LS.new 2, LS.new 2] 2 7 = (0, [⟨2, [5, 6], [], 0, 0⟩, LS.new 2, ⟨2, [7], [], 0, 0⟩]) := by rfl
  have e4 : takeP [⟨2, [5, 6], [], 0, 0⟩, LS.new 2, ⟨2, [7], [], 0, 0⟩] 0 = ((5, 0, (0, 0), false, 0), [⟨2, [6], [], 1, 0⟩, LS.new 2, ⟨2, [7], [], 0, 0⟩], 1) := by rfl
  have e5 : takeP [⟨2, [6], [], 1, 0⟩, LS.new 2, ⟨2, [7], [], 0, 0⟩] 1 = ((7, 2, (0, 0), false, 0), [⟨2, [6], [], 1, 0⟩, LS.new 2, ⟨2, [], [], 1, 0⟩], 0) := by rfl
  have e6 : someP [⟨2, [6], [], 1, 0⟩, LS.new 2, ⟨2, [], [], 1, 0⟩] = true := by rfl
  rw [e1] at G1 G2 G3 G4
  simp only at G1 G2 G3 G4
  rw [e2] at G2 G3 G4
  simp only at G2 G3 G4
  rw [e3] at G3 G4
  simp only at G3 G4
  rw [e4] at G4
  simp only at G4
  have f3 : FewP [⟨2, [5, 6], [], 0, 0⟩, LS.new 2, ⟨2, [7], [], 0, 0⟩] 8000000000000 := tot_few (by decide)
  have f4 : FewP [⟨2, [6], [], 1, 0⟩, LS.new 2, ⟨2, [7], [], 0, 0⟩] 8000000000000 := tot_few (by decide)
  have hP1 := fun b W (h : LivP w.heap.size w W b (List.replicate 3 (LS.new 2)) 0) => put_livp h G0.out 0 5
  have hP2 := fun b W (h : LivP w.heap.size w W b [⟨2, [5], [], 0, 0⟩, LS.new 2, LS.new 2] 0) => put_livp h G1.out 0 6
  have hP3 := fun b W (h : LivP w.heap.size w W b [⟨2, [5, 6], [], 0, 0⟩, LS.new 2, LS.new 2] 0) => put_livp h G2.out 2 7
  have hT4 := fun b W (h : LivP w.heap.size w W b [⟨2, [5, 6], [], 0, 0⟩, LS.new 2, ⟨2, [7], [], 0, 0⟩] 0) => take_livp h G3.out f3
  have hT5 := fun b W (h : LivP w.heap.size w W b [⟨2, [6], [], 1, 0⟩, LS.new 2, ⟨2, [7], [], 0, 0⟩] 1) => take_livp h G4.out f4
  have hS6 := fun b W (h : LivP w.heap.size w W b [⟨2, [6], [], 1, 0⟩, LS.new 2, ⟨2, [], [], 1, 0⟩] 0) => some_livp h (by decide)
  rw [e1] at hP1
  rw [e2] at hP2
  rw [e3] at hP3
  rw [e4] at hT4
  rw [e5] at hT5
  rw [e6] at hS6
  unfold ptkV at hT4 hT5
  simp only at hP1 hP2 hP3 hT4 hT5
  obtain ⟨s0, hs0⟩ : ∃ s, Hid (List.replicate 3 (LS.new 2) = s) := ⟨_, rfl⟩
  obtain ⟨s1, hs1⟩ : ∃ s, Hid (([⟨2, [5], [], 0, 0⟩, LS.new 2, LS.new 2] : List LS) = s) := ⟨_, rfl⟩
  obtain ⟨s2, hs2⟩ : ∃ s, Hid (([⟨2, [5, 6], [], 0, 0⟩, LS.new 2, LS.new 2] : List LS) = s) := ⟨_, rfl⟩
  obtain ⟨s3, hs3⟩ : ∃ s, Hid (([⟨2, [5, 6], [], 0, 0⟩, LS.new 2, ⟨2, [7], [], 0, 0⟩] : List LS) = s) := ⟨_, rfl⟩
  obtain ⟨s4, hs4⟩ : ∃ s, Hid (([⟨2, [6], [], 1, 0⟩, LS.new 2, ⟨2, [7], [], 0, 0⟩] : List LS) = s) := ⟨_, rfl⟩
  obtain ⟨s5, hs5⟩ : ∃ s, Hid (([⟨2, [6], [], 1, 0⟩, LS.new 2, ⟨2, [], [], 1, 0⟩] : List LS) = s) := ⟨_, rfl⟩
  rw [hs0.out] at hN hP1
  rw [hs1.out] at hP1 hP2
  rw [hs2.out] at hP2 hP3
  rw [hs3.out] at hP3 hT4
  rw [hs4.out] at hT4 hT5
  rw [hs5.out] at hT5 hS6
  clear e1 e2 e3 e4 e5 e6 g0 g1 g2 g3 g4 G0 G1 G2 G3 G4 f3 f4 hs0 hs1 hs2 hs3 hs4 hs5
  go_enter Try.func5, Try.ntmps5
  go_upto_region 4 with (first | (go_at_call 12; refine hN.mono ?_; rintro e1 w1 hm; obtain ⟨b, rfl, L1⟩ := hm.liv (below_same w) (Nat.le_refl _); clear hm; have h1 := hP1 b w1 L1; clear L1))
  go_upto_region 5 with (first | (go_at_call 17; refine h1.mono ?_; rintro e2 w2 ⟨rfl, L2⟩; clear h1; have h2 := hP2 b w2 L2; clear L2))
  go_upto_region 6 with (first | (go_at_call 17; refine h2.mono ?_; rintro e3 w3 ⟨rfl, L3⟩; clear h2; have h3 := hP3 b w3 L3; clear L3))
  go_upto_region 7 with (first | (go_at_call 17; refine h3.mono ?_; rintro e4 w4 ⟨rfl, L4⟩; clear h3; have h4 := hT4 b w4 L4; clear L4))
  go_upto_region 8 with (first | (go_at_call 18; refine h4.mono ?_; rintro e5 w5 ⟨rfl, L5⟩; clear h4; have h5 := hT5 b _ (L5.bel (below_al w5 (.cells #[.int .i64 0, .int .i64 0] 52))); clear L5))
  go_upto_region 9 with (first | (go_at_call 18; refine h5.mono ?_; rintro e6 w6 ⟨rfl, L6⟩; clear h5; have h6 := hS6 b _ (L6.bel (below_al w6 (.cells #[.int .i64 0, .int .i64 0] 52))); clear L6))
  go_wp2_with (first | (go_at_call 19; refine h6.mono ?_; rintro e7 w7 ⟨rfl, L7⟩))
  go_ret
  exact ⟨rfl, L7.below⟩

/-- Their lists are longer than may be copied here. -/
def longT (l : List TLn) : Prop := (∃ t ∈ l, 1048576 < t.vs.length ∨ 4096 < t.ws.length) ∨ 1048576 < l.length
set_option maxRecDepth 100000 in
set_option maxHeartbeats 2000000 in
theorem long_any {a : Option Addr} {l : List TLn} {c : Nat} {w : World} (hR : Rd w a (tlC l)) (hl : l.length ≤ 8000000000000) (B : Bool) (hB : B = true ↔ longT l) :
    Calls Try.prog 6 #[.slice a l.length c] w fun e w' => e = .returned (.bool B) ∧ w' = w := by
  have HB := hd hB
  have HR := hd hR
  obtain ⟨n, hnn⟩ : ∃ n, Hid (l.length = n) := ⟨_, rfl⟩
  rw [hnn.out] at hl ⊢
  clear hB hR
  go_enter Try.func6, Try.ntmps6
  go_wp2_with fail
  go_loopg [3] n (fun k v3 wr => ∃ i : Nat, v3 = .int .i64 (i : Int) ∧ i + k = n ∧ wr = w ∧ Hid (∀ j, j < i → (tAt l j).vs.length ≤ 1048576 ∧ (tAt l j).ws.length ≤ 4096))
  case atStart => exact ⟨0, rfl, by omega, rfl, hd (fun j hj => by omega)⟩
  case round =>
    obtain ⟨i, rfl, hik, rfl, HH⟩ := hrel
    by_cases hlt : i < n
    · have hlt' : (i : Int) < (n : Int) := by omega
      have hil : i < l.length := by rw [hnn.out]; exact hlt
      obtain ⟨k0, k1, k2, k3⟩ := tlC_at l i hil
      obtain ⟨b, o, rfl, c0⟩ := HR.out _ _ k0
      obtain ⟨b1, o1, e1, c1⟩ := HR.out _ _ k1
      cases e1
      have c1 : wr.cell? ⟨b, o + i * 4 + 1, none⟩ = some (.slice (tAt l i).a2 (tAt l i).ws.length (tAt l i).c2) := c1
      obtain ⟨t, ht⟩ : ∃ t, Hid (tAt l i = t) := ⟨_, rfl⟩
      have HT : Hid (t ∈ l) := hd (by rw [← ht.out]; exact tAt_mem hil)
      rw [ht.out] at c0 c1
      obtain ⟨vn, hvn⟩ : ∃ vn, Hid (t.vs.length = vn) := ⟨_, rfl⟩
      obtain ⟨wn, hwn⟩ : ∃ wn, Hid (t.ws.length = wn) := ⟨_, rfl⟩
      rw [hvn.out] at c0
      rw [hwn.out] at c1
      clear k0 k1 k2 k3 hil
      by_cases hv : 1048576 < vn
      · have hv' : (1048576 : Int) < (vn : Int) := by omega
        have HBt : Hid (B = true) := hd (HB.out.2 (.inl ⟨t, HT.out, .inl (by rw [hvn.out]; exact hv)⟩))
        go_wp2_with fail
        go_ret
        exact ⟨by rw [HBt.out]; rfl, rfl⟩
      · have hv' : decide ((1048576 : Int) < (vn : Int)) = false := by simp; omega
        have hv2 : vn ≤ 1048576 := by omega
        have hv3 : decide (1048576 < vn) = false := by simp; omega
        by_cases hw : 4096 < wn
        · have hw' : (4096 : Int) < (wn : Int) := by omega
          have HBt : Hid (B = true) := hd (HB.out.2 (.inl ⟨t, HT.out, .inr (by rw [hwn.out]; exact hw)⟩))
          clear hv
          go_wp2_with fail
          go_ret
          exact ⟨by rw [HBt.out]; rfl, rfl⟩
        · have hw' : decide ((4096 : Int) < (wn : Int)) = false := by simp; omega
          have hw2 : wn ≤ 4096 := by omega
          have hw3 : decide (4096 < wn) = false := by simp; omega
          clear hv hw
          go_wp2_with fail
          go_roundg (gk - 1)
          case measure => omega
          case rel => exact ⟨i + 1, by go_num, by omega, rfl, hd (fun j hj => by
            by_cases e : j = i
            · rw [e, ht.out, hvn.out, hwn.out]; exact ⟨hv2, hw2⟩
            · exact HH.out j (by omega))⟩
    · have hltd : decide ((i : Int) < (n : Int)) = false := by simp; omega
      have hle : (n : Int) ≤ (i : Int) := by omega
      have HBq : Hid (B = decide (1048576 < n)) := hd (by
        have h1 : B = true ↔ 1048576 < n := by
          rw [HB.out]
          refine ⟨fun h => ?_, fun h => .inr (by rw [hnn.out]; exact h)⟩
          rcases h with ⟨t, ht, h⟩ | h
          · obtain ⟨j, hj, rfl⟩ := tAt_of_mem ht
            have := HH.out j (by have := hnn.out; omega)
            omega
          · rw [hnn.out] at h; exact h
        cases B <;> simp at h1 ⊢ <;> omega)
      go_wp2_with fail
      go_ret
      exact ⟨by rw [HBq.out]; first | rfl | (simp; omega), rfl⟩
end Go.Proofs.Ytknklbojcnhjcaa
