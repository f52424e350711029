/- The document's side: waits, Wait, Leave, End. -/
import Derived.Test.YtknklbojcnhjcaaLR1
namespace Go.Proofs.Ytknklbojcnhjcaa
open Go.RowKit

set_option maxRecDepth 100000 in
set_option maxHeartbeats 2000000 in
theorem waits_any {b : Nat} {F : Nat → Prop} {s : LS} {w : World} (h : Ln w 91 b F s) (p : Int) (hn : s.ws.length ≤ 8000000000000) :
    Calls Try.prog 74 #[.pointer (some ⟨b, 0, none⟩), .int .i64 p] w fun e w' => e = .returned (.int .i64 (idxL s.ws p)) ∧ w' = w := by
  obtain ⟨a1, c1, a2, c2, h, -, -⟩ := h
  obtain ⟨I, hI⟩ : ∃ I, Hid (idxL s.ws p = I) := ⟨_, rfl⟩
  rw [hI.out]
  have k2 := h.cells.2.2.1
  have HR := hd h.wts.rd
  clear h
  go_enter Try.func74, Try.ntmps74
  go_wp2_with fail
  go_loopg [5] s.ws.length (fun k v5 wr => ∃ i : Nat, v5 = .int .i64 i ∧ i + k = s.ws.length ∧ wr = w ∧ Hid (∀ j, j < i → (s.ws.getD j (0, 0)).1 ≠ p))
  case atStart => exact ⟨0, rfl, by omega, rfl, hd (fun j hj => absurd hj (Nat.not_lt_zero j))⟩
  case round =>
    obtain ⟨i, rfl, hik, rfl, HH⟩ := hrel
    by_cases hlt : i < s.ws.length
    · have hlt' : (i : Int) < (s.ws.length : Int) := by omega
      obtain ⟨bb, o, rfl, c0, _⟩ := rd_w HR.out i hlt
      obtain ⟨⟨q, v⟩, hq⟩ : ∃ t, Hid (s.ws.getD i (0, 0) = t) := ⟨_, rfl⟩
      rw [hq.out] at c0
      simp only at c0
      by_cases he : q = p
      · have hF : Hid (I = (i : Int)) := hd (by rw [← hI.out]; exact idxL_some hlt (by rw [hq.out]; exact he) HH.out)
        have he' : (q == p) = true := by simp [he]
        clear he
        go_wp2_with fail
        go_ret
        exact ⟨by rw [hF.out]; rfl, rfl⟩
      · have HN : Hid (q ≠ p) := hd he
        have he' : (q == p) = false := by simp [he]
        clear he
        go_wp2_with fail
        go_roundg (gk - 1)
        case measure => omega
        case rel =>
          exact ⟨i + 1, by go_num, by omega, rfl, hd (fun j hj => by
            by_cases ej : j = i
            · rw [ej, hq.out]; exact HN.out
            · exact HH.out j (by omega))⟩
    · have hltd : decide ((i : Int) < (s.ws.length : Int)) = false := by simp; omega
      have hF : Hid (I = -1) := hd (by rw [← hI.out]; exact idxL_none (fun j hj => HH.out j (by omega)))
      go_wp2_with fail
      go_ret
      exact ⟨by rw [hF.out]; rfl, rfl⟩

set_option maxRecDepth 100000 in
set_option maxHeartbeats 1000000 in
theorem rwait_any {b : Nat} {F : Nat → Prop} {s : LS} {w : World} (h : Ln w 91 b F s) (hg : Good s) (p v : Int) (hn : s.ws.length ≤ 7000000000000) :
    Calls Try.prog 56 #[.pointer (some ⟨b, 0, none⟩), .int .i64 p, .int .i64 v] w fun e w' => e = .returned (.int .i64 (waitL s p v).1) ∧ LnOut w 91 b F (waitL s p v).2 w' := by
  have hlen := hg.len
  have hpl := fun (W : World) (hb : Below w.heap.size w W) => waits_any (h.below hb) p (by omega)
  obtain ⟨a1, c1, a2, c2, h, hF, hlt⟩ := h
  have HLn : Hid (Ln w 91 b F s) := hd ⟨a1, c1, a2, c2, h, hF, hlt⟩
  obtain ⟨k0, k1, k2, k3, k4⟩ := h.cells
  have HL := hd h
  have HF := hd hF
  clear h hF hlt k2 k3 k4
  by_cases hf : s.vs.length = s.room
  · have hltd : decide (s.vs.length < s.room) = false := by simp; omega
    have hge : s.room ≤ s.vs.length := by omega
    by_cases hi : 0 ≤ idxL s.ws p
    · have e1 : waitL s p v = (8, s) := by unfold waitL; rw [if_pos hf, if_pos hi]
      rw [e1]
      clear hf e1
      go_enter Try.func56, Try.ntmps56
      go_wp2_with fail
      go_quiet (fail)
      have hp1 := hpl (w.drewN nq) (below_drewN (below_same w) _)
      go_wp2_with (first | (go_at_call 74; refine hp1.mono ?_; rintro e2 w2 ⟨rfl, rfl⟩))
      go_ret
      exact ⟨rfl, LnOut.same HLn.out (below_drewN (below_same w) _)⟩
    · have e1 : waitL s p v = (0, { s with ws := s.ws ++ [(p, v)] }) := by unfold waitL; rw [if_pos hf, if_neg hi]
      rw [e1]
      have hid : decide (0 ≤ idxL s.ws p) = false := by simpa using hi
      clear hf e1 hi
      obtain ⟨I, hI⟩ : ∃ I, idxL s.ws p = I := ⟨_, rfl⟩
      rw [hI] at hid hpl
      clear hI
      go_enter Try.func56, Try.ntmps56
      go_wp2_with fail
      go_quiet (fail)
      obtain ⟨w1, hw1⟩ : ∃ W, Hid (w.drewN nq = W) := ⟨_, rfl⟩
      rw [hw1.out]
      have b1 : Below w.heap.size w w1 := by rw [← hw1.out]; exact below_drewN (below_same w) _
      have hp1 := hpl w1 b1
      go_upto_region 5 with (first | (go_at_call 74; refine hp1.mono ?_; rintro e2 w1 ⟨rfl, rfl⟩))
      have h1 := HL.out.below b1
      obtain ⟨a', c', w2, hap, R2, b2, B2⟩ := clone_w (c := c2) h1.wts.rd (by omega)
      have q1 := (h1.below (below_al w1 (.cells #[] 52))).cells.2.2.1
      have h2 := h1.below b2
      obtain ⟨a'', c'', w3, hap3, R3, M3, B3⟩ := push_w R2 (by omega) p v
      have hnb : ∀ k, blk a' = some k → k ≠ b := fun k hk e => by have := B2 k hk; have := h1.blt; omega
      have M3' : Mod (fun k => w1.heap.size ≤ k) w2 w3 := M3.mono (fun k _ hk => B2 k hk)
      have z1 : w3.cell? ⟨b, 2, none⟩ = some (.slice a2 s.ws.length c2) := (M3.cell h2.blt (fun e => hnb b e rfl)).trans h2.cells.2.2.1
      have z2 : w3.frozen? ⟨b, 2, none⟩ = false := (M3.frozen h2.blt (fun e => hnb b e rfl)).trans (h2.free 2)
      have b3 : Below w1.heap.size w1 w3 := b2.trans (M3'.below b2.size (fun k _ h => h))
      have B3' : ∀ k, blk a'' = some k → w1.heap.size ≤ k := fun k hk => by
        rcases B3 k hk with h | h
        · exact B2 k h
        · exact Nat.le_trans b2.size h
      have HE : Hid (LnOut w 91 b F { s with ws := s.ws ++ [(p, v)] } (w3.setCell ⟨b, 2, none⟩ (.slice a'' (s.ws.length + 1) c''))) := hd (by
        have hP := h1.putW (Mod.of_below _ b3) (ws' := s.ws ++ [(p, v)]) (by rw [wC_app]; exact R3) (by simp) (fun k hk => .inr (B3' k hk))
        refine LnOut.mk' HF.out b1 ((Mod.of_below (fp b a1 a2) b3).setCell (.inl (.inl rfl)) _) (by simpa using hP) (fun k hk => ?_)
        rcases hk with rfl | hk | hk
        · exact .inl (.inl rfl)
        · exact .inl (.inr (.inl hk))
        · exact .inr (B3' k hk))
      clear R2 R3 M3 M3' B2 B3 B3' b2 b3 HL HF h1 h2 k0 k1
      have hap := hd hap
      have hap3 := hd hap3
      go_wp2_with (first | (at_builtin; first | (refine wpList_append_run rfl _ _ _ rfl _ _ _ _ rfl rfl hap.out ?_; clear hap) | (refine wpList_append_run rfl _ _ _ rfl _ _ _ _ rfl rfl hap3.out ?_)))
      go_ret
      exact ⟨rfl, HE.out⟩
  · have hlt0 : s.vs.length < s.room := by omega
    have e1 : waitL s p v = (20, s) := by unfold waitL; rw [if_neg hf]
    rw [e1]
    clear hf e1 hpl
    go_enter Try.func56, Try.ntmps56
    go_wp2_with fail
    go_quiet (fail)
    go_wp2_with fail
    go_ret
    exact ⟨rfl, LnOut.same HLn.out (below_drewN (below_same w) _)⟩

theorem rd_take {w : World} {a : Option Addr} {xs : List Value} (h : Rd w a xs) (k : Nat) : Rd w a (xs.take k) := fun j u hj => by
  rw [List.getElem?_take] at hj
  split at hj
  · exact h j u hj
  · cases hj

set_option maxRecDepth 100000 in
set_option maxHeartbeats 1000000 in
theorem rend_any {b : Nat} {F : Nat → Prop} {s : LS} {w : World} (h : Ln w 91 b F s) :
    Calls Try.prog 60 #[.pointer (some ⟨b, 0, none⟩)] w fun e w' => ∃ a c, e = .returned (.slice a s.ws.length c) ∧ Rd w' a (wC s.ws) ∧ (∀ k, blk a = some k → F k) ∧ Mod F w w' ∧ Ln w' 91 b F (endL s) := by
  obtain ⟨a1, c1, a2, c2, h, hF, hlt⟩ := h
  have q1 := h.cells.2.2.1
  have q2 := h.free 2
  have HE : Hid (Rd (w.setCell ⟨b, 2, none⟩ (.slice none 0 0)) a2 (wC s.ws) ∧ (∀ k, blk a2 = some k → F k) ∧ Mod F w (w.setCell ⟨b, 2, none⟩ (.slice none 0 0)) ∧ Ln (w.setCell ⟨b, 2, none⟩ (.slice none 0 0)) 91 b F (endL s)) := hd (by
    have hb := hF b (.inl rfl)
    refine ⟨?_, fun k hk => hF k (.inr (.inr hk)), (Mod.refl F w).setCell (.inl hb) _, ?_⟩
    · exact (h.wts.kept (fun k hk => Below.heap_setCell _ _ _ _ (h.f2 k hk).1)).rd
    · refine ⟨a1, c1, none, 0, h.putW (ws' := []) (Mod.refl _ _) Row.nil rfl (fun k hk => by cases hk), fun k hk => ?_, fun k hk => ?_⟩
      · rcases hk with hk | hk | hk
        · exact hF k (.inl hk)
        · exact hF k (.inr (.inl hk))
        · cases hk
      · have := hlt k hk
        simp [World.setCell]
        omega)
  clear h hF hlt
  go_enter Try.func60, Try.ntmps60
  go_wp2_with fail
  go_ret
  exact ⟨a2, c2, rfl, HE.out⟩
end Go.Proofs.Ytknklbojcnhjcaa
