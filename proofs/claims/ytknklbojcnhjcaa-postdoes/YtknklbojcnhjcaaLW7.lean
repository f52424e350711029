/- Drop, Wait, Leave, End. -/
import Derived.Test.YtknklbojcnhjcaaLW6
namespace Go.Proofs.Ytknklbojcnhjcaa
open Go.RowKit

set_option maxRecDepth 100000 in
theorem drop_any {b : Nat} {F : Nat → Prop} {s : LS} {w : World} (h : Ln w 89 b F s) (hg : Good s) :
    Calls Try.prog 51 #[.pointer (some ⟨b, 0, none⟩)] w fun e w' => e = .returned (.tuple #[]) ∧ LnOut w 89 b F (dropL s) w' := by
  have hm := more_any s.dr w hg.may.2.2.2.2
  obtain ⟨a1, c1, a2, c2, h, hF, -⟩ := h
  have k4 := h.cells.2.2.2.2
  have kf := h.free 4
  have HE : Hid (LnOut w 89 b F (dropL s) (w.setCell ⟨b, 4, none⟩ (.int .i64 (moreL s.dr)))) := hd
    (LnOut.mk' hF (below_same w) ((Mod.refl (fp b a1 a2) w).setCell (.inl (.inl rfl)) _) (h.putD (moreL s.dr)) (fun k hk => .inl hk))
  clear h hF hg
  go_enter Try.func51, Try.ntmps51
  go_wp2_with (first | (go_at_call 64; refine hm.mono ?_; rintro e1 w1 ⟨rfl, rfl⟩))
  refine bodyPost_end (results_none rfl _ _ _) rfl ?_
  exact ⟨rfl, HE.out⟩

set_option maxRecDepth 100000 in
set_option maxHeartbeats 1000000 in
theorem wait_any {b : Nat} {F : Nat → Prop} {s : LS} {w : World} (h : Ln w 89 b F s) (p v : Int) (hn : s.ws.length ≤ 7000000000000) :
    Calls Try.prog 55 #[.pointer (some ⟨b, 0, none⟩), .int .i64 p, .int .i64 v] w fun e w' => e = .returned (.int .i64 (waitL s p v).1) ∧ LnOut w 89 b F (waitL s p v).2 w' := by
  by_cases hf : s.vs.length = s.room
  · have hfl := full_any h true (by simp [hf])
    have hpl := fun (W : World) (hb : Below w.heap.size w W) => place_any (h.below hb) p (by omega)
    by_cases hi : 0 ≤ idxL s.ws p
    · have e1 : waitL s p v = (8, s) := by unfold waitL; rw [if_pos hf, if_pos hi]
      rw [e1]
      have HL := hd h
      clear hf h e1
      go_enter Try.func55, Try.ntmps55
      go_wp2_with (first | (go_at_call 61; refine hfl.mono ?_; rintro e1 w1 ⟨rfl, b1⟩; have hp1 := hpl w1 b1) | (go_at_call 73; refine hp1.mono ?_; rintro e2 w2 ⟨rfl, b2⟩))
      go_ret
      exact ⟨rfl, LnOut.same HL.out (b1.trans (b2.mono b1.size))⟩
    · have e1 : waitL s p v = (0, { s with ws := s.ws ++ [(p, v)] }) := by unfold waitL; rw [if_pos hf, if_neg hi]
      rw [e1]
      have hid : decide (0 ≤ idxL s.ws p) = false := by simpa using hi
      obtain ⟨a1, c1, a2, c2, h, hF, -⟩ := h
      have HL := hd h
      have HF := hd hF
      clear hf h e1 hF hi
      obtain ⟨I, hI⟩ : ∃ I, idxL s.ws p = I := ⟨_, rfl⟩
      rw [hI] at hid hpl
      clear hI
      go_enter Try.func55, Try.ntmps55
      go_upto_region 5 with (first | (go_at_call 61; refine hfl.mono ?_; rintro e1 w1 ⟨rfl, b1⟩; have hp1 := hpl w1 b1) | (go_at_call 73; refine hp1.mono ?_; rintro e2 w2 ⟨rfl, b2⟩))
      have b3 := b1.trans (b2.mono b1.size)
      have h1 := HL.out.below b3
      obtain ⟨a', c', w3, hap, R2, M2, B2⟩ := push_w h1.wts (by omega) p v
      have q1 := h1.cells.2.2.1
      obtain ⟨z1, z2⟩ := h1.stayW M2 2
      rw [q1] at z1
      have HE : Hid (LnOut w 89 b F { s with ws := s.ws ++ [(p, v)] } (w3.setCell ⟨b, 2, none⟩ (.slice a' (s.ws.length + 1) c'))) := hd (by
        have hP := h1.putW M2 (ws' := s.ws ++ [(p, v)]) (by rw [wC_app]; exact R2) (by simp) B2
        refine LnOut.mk' HF.out b3 ((M2.mono (fun k _ hk => .inr (.inr hk))).setCell (.inl (.inl rfl)) _) (by simpa using hP) (fun k hk => ?_)
        rcases hk with rfl | hk | hk
        · exact .inl (.inl rfl)
        · exact .inl (.inr (.inl hk))
        · rcases B2 k hk with h | h
          · exact .inl (.inr (.inr h))
          · exact .inr h)
      clear R2 M2 B2 HL HF h1 hfl hpl hp1 b1 b2 b3
      have hap := hd hap
      go_wp2_with (first | (at_builtin; refine wpList_append_run rfl _ _ _ rfl _ _ _ _ rfl rfl hap.out ?_))
      go_ret
      exact ⟨rfl, HE.out⟩
  · have hfl := full_any h false (by simp [hf])
    have HL := hd h
    have e1 : waitL s p v = (20, s) := by unfold waitL; rw [if_neg hf]
    rw [e1]
    clear hf h e1
    go_enter Try.func55, Try.ntmps55
    go_wp2_with (first | (go_at_call 61; refine hfl.mono ?_; rintro e1 w1 ⟨rfl, b1⟩))
    go_ret
    exact ⟨rfl, LnOut.same HL.out b1⟩

set_option maxRecDepth 100000 in
set_option maxHeartbeats 1000000 in
theorem leave_any {b : Nat} {F : Nat → Prop} {s : LS} {w : World} (h : Ln w 89 b F s) (p : Int) (hn : s.ws.length ≤ 8000000000000) :
    Calls Try.prog 57 #[.pointer (some ⟨b, 0, none⟩), .int .i64 p] w fun e w' => e = .returned (.bool (leaveL s p).1) ∧ LnOut w 89 b F (leaveL s p).2 w' := by
  have hpl := place_any h p hn
  rcases idxL_cases s.ws p with ⟨hi, _⟩ | ⟨i, hi, hil⟩
  · have e1 : leaveL s p = (false, s) := by unfold leaveL; rw [if_neg (by omega)]
    rw [e1]
    rw [hi] at hpl
    have HL := hd h
    clear hi h e1
    go_enter Try.func57, Try.ntmps57
    go_wp2_with (first | (go_at_call 73; refine hpl.mono ?_; rintro e2 w2 ⟨rfl, b2⟩))
    go_ret
    exact ⟨rfl, LnOut.same HL.out b2⟩
  · have e1 : leaveL s p = (true, { s with ws := s.ws.eraseIdx i }) := by unfold leaveL; rw [if_pos (by omega), hi]; simp
    rw [e1]
    rw [hi] at hpl
    obtain ⟨a1, c1, a2, c2, h, hF, -⟩ := h
    obtain ⟨g, rfl⟩ := h.wts.head (by omega)
    have HL := hd h
    have HF := hd hF
    clear h hF e1 hi
    go_enter Try.func57, Try.ntmps57
    go_upto_region 4 with (first | (go_at_call 73; refine hpl.mono ?_; rintro e2 w2 ⟨rfl, b2⟩))
    have h1 := HL.out.below b2
    have hwo := without_w h1.wts hil
    have q1 := h1.cells.2.2.1
    have HE : ∀ w3, WOut w2 52 2 g (s.ws.length - 1) (wC (s.ws.eraseIdx i)) (.returned (.slice (some ⟨g, 0, none⟩) (s.ws.length - 1) (s.ws.length - 1))) w3 →
        w3.cell? ⟨b, 2, none⟩ = w2.cell? ⟨b, 2, none⟩ ∧ w3.frozen? ⟨b, 2, none⟩ = false ∧ Hid (LnOut w 89 b F { s with ws := s.ws.eraseIdx i } (w3.setCell ⟨b, 2, none⟩ (.slice (some ⟨g, 0, none⟩) (s.ws.length - 1) (s.ws.length - 1)))) := fun w3 ⟨_, R3, M3⟩ => by
      have M2 : Mod (fun k => blk (some ⟨g, 0, none⟩) = some k) w2 w3 := M3.mono (fun k _ hk => by rw [hk]; rfl)
      obtain ⟨z1, z2⟩ := h1.stayW M2 2
      refine ⟨z1, z2, hd ?_⟩
      have hP := h1.putW M2 (ws' := s.ws.eraseIdx i) R3 (by rw [List.length_eraseIdx, if_pos hil]) (fun k hk => .inl hk)
      exact LnOut.mk' HF.out b2 ((M2.mono (fun k _ hk => .inr (.inr hk))).setCell (.inl (.inl rfl)) _) hP (fun k hk => .inl hk)
    clear HL HF h1 hpl b2
    obtain ⟨n, hN⟩ : ∃ n, s.ws.length - 1 = n := ⟨_, rfl⟩
    rw [hN] at HE hwo
    clear hN
    have HE := hd HE
    go_upto_region 5 with (first | (go_at_call 65; refine hwo.mono ?_; rintro e3 w3 hw3; obtain rfl := hw3.1; obtain ⟨z1, z2, HE3⟩ := HE.out w3 hw3; rw [q1] at z1; clear hw3))
    go_wp2_with fail
    go_ret
    exact ⟨rfl, HE3.out⟩

set_option maxRecDepth 100000 in
theorem end_any {b : Nat} {F : Nat → Prop} {s : LS} {w : World} (h : Ln w 89 b F s) (hn : s.ws.length ≤ 8000000000000) :
    Calls Try.prog 59 #[.pointer (some ⟨b, 0, none⟩)] w fun e w' => ∃ g, e = .returned (.slice (some ⟨g, 0, none⟩) s.ws.length s.ws.length) ∧ Row w' 52 2 (some ⟨g, 0, none⟩) s.ws.length s.ws.length (wC s.ws) ∧ w.heap.size ≤ g ∧ Mod F w w' ∧ Ln w' 89 b F (endL s) := by
  obtain ⟨a1, c1, a2, c2, h, hF, hlt⟩ := h
  have q1 := h.cells.2.2.1
  have hcp := copied_w (cap := c2) h.wts.rd hn
  have HL := hd h
  have HF := hd hF
  have HT := hd hlt
  clear h hF hlt
  go_enter Try.func59, Try.ntmps59
  go_upto_region 2 with (first | (go_at_call 47; refine hcp.mono ?_; rintro e3 w3 ⟨g, rfl, R3, hg3, b3⟩))
  have h1 := HL.out.below b3
  have q1 := h1.cells.2.2.1
  have q2 := h1.free 2
  have HE : Hid (Row (w3.setCell ⟨b, 2, none⟩ (.slice none 0 0)) 52 2 (some ⟨g, 0, none⟩) s.ws.length s.ws.length (wC s.ws) ∧ w.heap.size ≤ g ∧ Mod F w (w3.setCell ⟨b, 2, none⟩ (.slice none 0 0)) ∧ Ln (w3.setCell ⟨b, 2, none⟩ (.slice none 0 0)) 89 b F (endL s)) := hd (by
    have hb := HF.out b (.inl rfl)
    refine ⟨R3.kept (fun k hk => Below.heap_setCell _ _ _ _ (fun e => ?_)), hg3, (Mod.of_below F b3).setCell (.inl hb) _, ?_⟩
    · cases hk
      have := HL.out.blt
      simp only at e
      omega
    · refine ⟨a1, c1, none, 0, h1.putW (ws' := []) (Mod.refl _ _) Row.nil rfl (fun k hk => by cases hk), fun k hk => ?_, fun k hk => ?_⟩
      · rcases hk with hk | hk | hk
        · exact HF.out k (.inl hk)
        · exact HF.out k (.inr (.inl hk))
        · cases hk
      · have := HT.out k hk
        have := b3.size
        simp [World.setCell]
        omega)
  clear R3 hg3 b3 h1 HL HF HT hcp
  go_wp2_with fail
  go_ret
  exact ⟨g, rfl, HE.out⟩
end Go.Proofs.Ytknklbojcnhjcaa
