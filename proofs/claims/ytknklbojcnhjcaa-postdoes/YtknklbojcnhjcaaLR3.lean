/- The document's side: Leave. -/
import Derived.Test.YtknklbojcnhjcaaLR2
namespace Go.Proofs.Ytknklbojcnhjcaa
open Go.RowKit

theorem rd_drop {w : World} {g : Nat} {xs : List Value} (h : Rd w (some ⟨g, 0, none⟩) xs) (k : Nat) : Rd w (some ⟨g, k, none⟩) (xs.drop k) := fun j u hj => by
  rw [List.getElem?_drop] at hj
  obtain ⟨b, o, e, hc⟩ := h _ u hj
  cases e
  rw [Nat.zero_add] at hc
  exact ⟨g, k, rfl, hc⟩

/-- More of a list of those who wait onto a row. -/
theorem join_w {w : World} {a : Option Addr} {n c : Nat} {xs : List Value} (hR : Row w 52 2 a n c xs) {a2 : Option Addr} {m c2 : Nat} {ys : List Value} (hS : Rd w a2 ys) (hl : ys.length = m * 2) (h1 : ∀ u ∈ ys, u.oneCell' = true) (hn : n + m ≤ 8000000000000) :
    ∃ a' c' w', (∀ ty, (Builtin.append_ #[27, 27] ty #[.slice a n c, .slice a2 m c2]).run Try.prog w = .ok (.slice a' (n + m) c') w') ∧
      Row w' 52 2 a' (n + m) c' (xs ++ ys) ∧ Mod (fun k => blk a = some k) w w' ∧ (∀ k, blk a' = some k → blk a = some k ∨ w.heap.size ≤ k) := by
  obtain ⟨i, i1, i2, i3, i4⟩ := info_parts infoW
  obtain ⟨a', c', w', k1, k2, k3, k4, _⟩ := run_append_row (P := Try.prog) _ 27 52 i _ 2 16 Try.underlying27 i1 i2 i3 i4 rfl hR (.slice a2 m c2) m ys (hS.src Try.underlying27 hl (by decide) h1) (by unfold maxLen; omega) (by omega)
  exact ⟨a', c', w', k1, k2, k3, k4⟩

set_option maxRecDepth 100000 in
set_option maxHeartbeats 1000000 in
theorem rleave_any {b : Nat} {F : Nat → Prop} {s : LS} {w : World} (h : Ln w 91 b F s) (p : Int) (hn : s.ws.length ≤ 8000000000000) :
    Calls Try.prog 58 #[.pointer (some ⟨b, 0, none⟩), .int .i64 p] w fun e w' => e = .returned (.bool (leaveL s p).1) ∧ LnOut w 91 b F (leaveL s p).2 w' := by
  have hpl := waits_any h p hn
  rcases idxL_cases s.ws p with ⟨hi, _⟩ | ⟨i, hi, hil⟩
  · have e1 : leaveL s p = (false, s) := by unfold leaveL; rw [if_neg (by omega)]
    rw [e1]
    rw [hi] at hpl
    have HL := hd h
    clear hi h e1
    go_enter Try.func58, Try.ntmps58
    go_wp2_with (first | (go_at_call 74; refine hpl.mono ?_; rintro e2 w ⟨rfl, rfl⟩))
    go_ret
    exact ⟨rfl, LnOut.same HL.out (below_same _)⟩
  · have e1 : leaveL s p = (true, { s with ws := s.ws.eraseIdx i }) := by unfold leaveL; rw [if_pos (by omega), hi]; simp
    rw [e1]
    rw [hi] at hpl
    obtain ⟨a1, c1, a2, c2, h, hF, -⟩ := h
    obtain ⟨g, rfl⟩ := h.wts.head (by omega)
    have hcap := h.wts.capLe
    have hcm : c2 ≤ 9223372036854775807 := by have := h.wts.2.2.1; unfold maxLen at this; omega
    have HF := hd hF
    -- the first list
    obtain ⟨a', c', w2, hap, R2, b2, B2⟩ := clone_sz 27 52 _ 2 16 Try.underlying27 infoW rfl (by decide) (c := c2) (rd_take h.wts.rd (i * 2)) (by rw [List.length_take, wC_len]; omega : ((wC s.ws).take (i * 2)).length = i * 2) (fun u hu => wC_one _ u (List.mem_of_mem_take hu)) (by omega) (by unfold maxLen; omega)
    have h2 := h.below b2
    have q1 := (h.below (below_al w (.cells #[] 52))).cells.2.2.1
    have q2 := h2.cells.2.2.1
    -- the second one behind it
    have hjoin : ∃ a'' c'' w3, (∀ ty, (Builtin.append_ #[27, 27] ty #[.slice a' i c', .slice (if c2 = i + 1 then some ⟨g, 0, none⟩ else some ⟨g, (i + 1) * 2, none⟩) (s.ws.length - (i + 1)) (c2 - (i + 1))]).run Try.prog w2 = .ok (.slice a'' (s.ws.length - 1) c'') w3) ∧
        Row w3 52 2 a'' (s.ws.length - 1) c'' (wC (s.ws.eraseIdx i)) ∧ Mod (fun k => blk a' = some k) w2 w3 ∧ (∀ k, blk a'' = some k → blk a' = some k ∨ w2.heap.size ≤ k) := by
      have hE : wC (s.ws.eraseIdx i) = (wC s.ws).take (i * 2) ++ (wC s.ws).drop ((i + 1) * 2) := by rw [← erase_eq, wC_app, wC_take, wC_drop]
      have hsum : i + (s.ws.length - (i + 1)) = s.ws.length - 1 := by omega
      rw [hE]
      have hld : ((wC s.ws).drop ((i + 1) * 2)).length = (s.ws.length - (i + 1)) * 2 := by rw [List.length_drop, wC_len]; omega
      have h1d : ∀ u ∈ (wC s.ws).drop ((i + 1) * 2), u.oneCell' = true := fun u hu => wC_one _ u (List.mem_of_mem_drop hu)
      by_cases hc : c2 = i + 1
      · rw [if_pos hc]
        have hz : (wC s.ws).drop ((i + 1) * 2) = [] := List.eq_nil_of_length_eq_zero (by rw [hld]; omega)
        obtain ⟨a'', c'', w3, k1, k2, k3, k4⟩ := join_w R2 (a2 := some ⟨g, 0, none⟩) (c2 := c2 - (i + 1)) (ys := (wC s.ws).drop ((i + 1) * 2)) (by rw [hz]; intro j u hj; simp at hj) hld h1d (by omega)
        rw [hsum] at k1 k2
        exact ⟨a'', c'', w3, k1, k2, k3, k4⟩
      · rw [if_neg hc]
        obtain ⟨a'', c'', w3, k1, k2, k3, k4⟩ := join_w R2 (a2 := some ⟨g, (i + 1) * 2, none⟩) (c2 := c2 - (i + 1)) (rd_drop h2.wts.rd ((i + 1) * 2)) hld h1d (by omega)
        rw [hsum] at k1 k2
        exact ⟨a'', c'', w3, k1, k2, k3, k4⟩
    obtain ⟨a'', c'', w3, hap3, R3, M3, B3⟩ := hjoin
    have hnb : ∀ k, blk a' = some k → k ≠ b := fun k hk e => by have := B2 k hk; have := h.blt; omega
    have M3' : Mod (fun k => w.heap.size ≤ k) w2 w3 := M3.mono (fun k _ hk => B2 k hk)
    have z1 : w3.cell? ⟨b, 2, none⟩ = some (.slice (some ⟨g, 0, none⟩) s.ws.length c2) := (M3.cell h2.blt (fun e => hnb b e rfl)).trans h2.cells.2.2.1
    have z2 : w3.frozen? ⟨b, 2, none⟩ = false := (M3.frozen h2.blt (fun e => hnb b e rfl)).trans (h2.free 2)
    have b3 : Below w.heap.size w w3 := b2.trans (M3'.below b2.size (fun k _ h => h))
    have B3' : ∀ k, blk a'' = some k → w.heap.size ≤ k := fun k hk => by
      rcases B3 k hk with h | h
      · exact B2 k h
      · exact Nat.le_trans b2.size h
    obtain ⟨N, hN⟩ : ∃ N, Hid (s.ws.length = N) := ⟨_, rfl⟩
    have HE : Hid (LnOut w 91 b F { s with ws := s.ws.eraseIdx i } (w3.setCell ⟨b, 2, none⟩ (.slice a'' (N - 1) c''))) := hd (by
      rw [← hN.out]
      have hP := h.putW (Mod.of_below _ b3) (ws' := s.ws.eraseIdx i) R3 (by rw [List.length_eraseIdx, if_pos hil]) (fun k hk => .inr (B3' k hk))
      refine LnOut.mk' HF.out (below_same w) ((Mod.of_below (fp b a1 (some ⟨g, 0, none⟩)) b3).setCell (.inl (.inl rfl)) _) hP (fun k hk => ?_)
      rcases hk with rfl | hk | hk
      · exact .inl (.inl rfl)
      · exact .inl (.inr (.inl hk))
      · exact .inr (B3' k hk))
    rw [hN.out] at q1 q2 z1 hap3 hil hcap hn
    have i1 : (i : Int) ≤ (c2 : Int) := by omega
    have i2 : (i : Int) + 1 ≤ (N : Int) := by omega
    have i3 : (N : Int) ≤ (c2 : Int) := by omega
    have i4 : c2 ≠ 0 := by omega
    have i5 : decide ((i : Int) < 0) = false := by simp
    have hap := hd hap
    have hap3 := hd hap3
    clear R2 R3 M3 M3' B2 B3 B3' b2 b3 HF h h2 hF e1 hi
    go_enter Try.func58, Try.ntmps58
    go_wp2_with (first | (go_at_call 74; refine hpl.mono ?_; rintro e2 w ⟨rfl, rfl⟩) | (at_builtin; first | (refine wpList_append_run rfl _ _ _ rfl _ _ _ _ rfl rfl hap.out ?_; clear hap) | (refine wpList_append_run rfl _ _ _ rfl _ _ _ _ rfl rfl hap3.out ?_)))
    all_goals go_ret
    all_goals exact ⟨rfl, HE.out⟩
end Go.Proofs.Ytknklbojcnhjcaa
