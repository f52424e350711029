/- The document's side: More, Put, Drop, waits, Wait, End. -/
import Derived.Test.YtknklbojcnhjcaaLWC
namespace Go.Proofs.Ytknklbojcnhjcaa
open Go.RowKit

/-- 'append([]T{}, l...)': a list in new memory. -/
theorem clone_sz (T e : TypeId) (z : Value) (size bytes : Nat) (hu : Try.prog.underlying T = some (.slice e)) (hinfo : (Try.prog.info? e).map (fun i => (i.zero, i.size, i.bytes)) = some (some z, size, bytes)) (hzs : z.cells.size = size) (hsz : 0 < size)
    {w : World} {a : Option Addr} {n c : Nat} {xs : List Value} (hR : Rd w a xs) (hl : xs.length = n * size) (h1 : ∀ u ∈ xs, u.oneCell' = true) (hn : n * bytes ≤ 140737488355328) (hm : n ≤ maxLen) :
    ∃ a' c' w', (∀ ty, (Builtin.append_ #[T, T] ty #[.slice (some ⟨w.heap.size, 0, none⟩) 0 0, .slice a n c]).run Try.prog (w.alloc (.cells #[] e)) = .ok (.slice a' n c') w') ∧ Row w' e size a' n c' xs ∧ Below w.heap.size w w' ∧ (∀ k, blk a' = some k → w.heap.size ≤ k) := by
  obtain ⟨i, i1, i2, i3, i4⟩ := info_parts hinfo
  have hb := below_al w (.cells #[] e)
  have h0 : Row (w.alloc (.cells #[] e)) e size (some ⟨w.heap.size, 0, none⟩) 0 0 [] := by
    have := row_new (size := size) (n := 0) (heap_alloc_new w (.cells #[] e)) (by simp) (Nat.zero_le _)
    simpa using this
  obtain ⟨a', c', w', k1, k2, k3, k4, _⟩ := run_append_row (P := Try.prog) _ T e i z size bytes hu i1 i2 i3 i4 hzs h0 (.slice a n c) n xs ((hR.below hb).src hu hl hsz h1) (by omega) (by rw [Nat.zero_add]; exact hn)
  rw [Nat.zero_add] at k1 k2
  rw [List.nil_append] at k2
  refine ⟨a', c', w', k1, k2, hb.trans (k3.below (by simp) (fun k _ hk => by cases hk; exact Nat.le_refl _)), fun k hk => ?_⟩
  rcases k4 k hk with h | h
  · cases h; exact Nat.le_refl _
  · have := hb.size; omega
theorem clone_i {w : World} {a : Option Addr} {c : Nat} {vs : List Int} (hR : Rd w a (iC vs)) (hn : vs.length ≤ 8000000000000) :
    ∃ a' c' w', (∀ ty, (Builtin.append_ #[26, 26] ty #[.slice (some ⟨w.heap.size, 0, none⟩) 0 0, .slice a vs.length c]).run Try.prog (w.alloc (.cells #[] 2)) = .ok (.slice a' vs.length c') w') ∧ Row w' 2 1 a' vs.length c' (iC vs) ∧ Below w.heap.size w w' ∧ (∀ k, blk a' = some k → w.heap.size ≤ k) :=
  clone_sz 26 2 _ 1 8 Try.underlying26 infoI rfl (by decide) hR (iC_len vs) (iC_one vs) (by omega) (by unfold maxLen; omega)
theorem clone_w {w : World} {a : Option Addr} {c : Nat} {ws : List (Int × Int)} (hR : Rd w a (wC ws)) (hn : ws.length ≤ 8000000000000) :
    ∃ a' c' w', (∀ ty, (Builtin.append_ #[27, 27] ty #[.slice (some ⟨w.heap.size, 0, none⟩) 0 0, .slice a ws.length c]).run Try.prog (w.alloc (.cells #[] 52)) = .ok (.slice a' ws.length c') w') ∧ Row w' 52 2 a' ws.length c' (wC ws) ∧ Below w.heap.size w w' ∧ (∀ k, blk a' = some k → w.heap.size ≤ k) :=
  clone_sz 27 52 _ 2 16 Try.underlying27 infoW rfl (by decide) hR (wC_len ws) (wC_one ws) (by omega) (by unfold maxLen; omega)

theorem rmore_any (n : Int) (w : World) (h : 0 ≤ n ∧ n ≤ 65535) : Calls Try.prog 69 #[.int .i64 n] w fun e w' => e = .returned (.int .i64 (moreL n)) ∧ w' = w := by
  obtain ⟨h0, h1⟩ := h
  by_cases hq : 65535 ≤ n
  · rw [moreL_up hq]
    go_enter Try.func69, Try.ntmps69
    go_wp2
    go_ret
    exact ⟨rfl, rfl⟩
  · rw [moreL_on (by omega)]
    have hd' : decide (65535 ≤ n) = false := by simpa using hq
    have hlt : n + 1 ≤ 65535 := by omega
    go_enter Try.func69, Try.ntmps69
    go_wp2
    go_ret
    exact ⟨rfl, rfl⟩

set_option maxRecDepth 100000 in
theorem rdrop_any {b : Nat} {F : Nat → Prop} {s : LS} {w : World} (h : Ln w 91 b F s) (hg : Good s) :
    Calls Try.prog 52 #[.pointer (some ⟨b, 0, none⟩)] w fun e w' => e = .returned (.tuple #[]) ∧ LnOut w 91 b F (dropL s) w' := by
  have hm := rmore_any s.dr w hg.may.2.2.2.2
  obtain ⟨a1, c1, a2, c2, h, hF, -⟩ := h
  have k4 := h.cells.2.2.2.2
  have kf := h.free 4
  have HE : Hid (LnOut w 91 b F (dropL s) (w.setCell ⟨b, 4, none⟩ (.int .i64 (moreL s.dr)))) := hd
    (LnOut.mk' hF (below_same w) ((Mod.refl (fp b a1 a2) w).setCell (.inl (.inl rfl)) _) (h.putD (moreL s.dr)) (fun k hk => .inl hk))
  clear h hF hg
  go_enter Try.func52, Try.ntmps52
  go_wp2_with (first | (go_at_call 69; refine hm.mono ?_; rintro e1 w1 ⟨rfl, rfl⟩))
  refine bodyPost_end (results_none rfl _ _ _) rfl ?_
  exact ⟨rfl, HE.out⟩

set_option maxRecDepth 100000 in
set_option maxHeartbeats 1000000 in
theorem rput_any {b : Nat} {F : Nat → Prop} {s : LS} {w : World} (h : Ln w 91 b F s) (hg : Good s) (v : Int) :
    Calls Try.prog 50 #[.pointer (some ⟨b, 0, none⟩), .int .i64 v] w fun e w' => e = .returned (.int .i64 (putL s v).1) ∧ LnOut w 91 b F (putL s v).2 w' := by
  have hlen := hg.len
  have hr2 := hg.r2
  obtain ⟨a1, c1, a2, c2, h, hF, hlt⟩ := h
  by_cases hf : s.vs.length = s.room
  · have HL : Hid (Ln w 91 b F s) := hd ⟨a1, c1, a2, c2, h, hF, hlt⟩
    obtain ⟨k0, k1, k2, k3, k4⟩ := h.cells
    have hge : (s.room : Int) ≤ (s.vs.length : Int) := by omega
    have e1 : putL s v = (19, s) := by unfold putL; rw [if_pos hf]
    rw [e1]
    clear hf h e1 hlen hF hlt k2 k3 k4
    go_enter Try.func50, Try.ntmps50
    go_wp2_with fail
    go_quiet (fail)
    go_wp2_with fail
    go_ret
    exact ⟨rfl, LnOut.same HL.out (below_drewN (below_same w) _)⟩
  · have hltd : decide (s.room ≤ s.vs.length) = false := by simp; omega
    have hlt0 : s.vs.length < s.room := by omega
    have e1 : putL s v = (0, { s with vs := s.vs ++ [v] }) := by unfold putL; rw [if_neg hf]
    rw [e1]
    have HL := hd h
    have HF := hd hF
    have hn : s.vs.length ≤ 64 := by omega
    obtain ⟨k0, k1, k2, k3, k4⟩ := h.cells
    clear hf h e1 hF hlen hlt k2 k3 k4
    go_enter Try.func50, Try.ntmps50
    go_wp2_with fail
    go_quiet (fail)
    go_upto_region 3 with fail
    obtain ⟨w1, hw1⟩ : ∃ W, Hid (w.drewN nq = W) := ⟨_, rfl⟩
    rw [hw1.out]
    have b1 : Below w.heap.size w w1 := by rw [← hw1.out]; exact below_drewN (below_same w) _
    have h1 := HL.out.below b1
    obtain ⟨a', c', w2, hap, R2, b2, B2⟩ := clone_i (c := c1) h1.vals.rd (by omega)
    have q1 := (h1.below (below_al w1 (.cells #[] 2))).cells.2.1
    have h2 := h1.below b2
    obtain ⟨a'', c'', w3, hap3, R3, M3, B3⟩ := push_i R2 (by omega) v
    have hnb : ∀ k, blk a' = some k → k ≠ b := fun k hk e => by have := B2 k hk; have := h1.blt; omega
    have M3' : Mod (fun k => w1.heap.size ≤ k) w2 w3 := M3.mono (fun k _ hk => B2 k hk)
    have z1 : w3.cell? ⟨b, 1, none⟩ = some (.slice a1 s.vs.length c1) := (M3.cell h2.blt (fun e => hnb b e rfl)).trans h2.cells.2.1
    have z2 : w3.frozen? ⟨b, 1, none⟩ = false := (M3.frozen h2.blt (fun e => hnb b e rfl)).trans (h2.free 1)
    have b3 : Below w1.heap.size w1 w3 := b2.trans (M3'.below b2.size (fun k _ h => h))
    have B3' : ∀ k, blk a'' = some k → w1.heap.size ≤ k := fun k hk => by
      rcases B3 k hk with h | h
      · exact B2 k h
      · exact Nat.le_trans b2.size h
    have HE : Hid (LnOut w 91 b F { s with vs := s.vs ++ [v] } (w3.setCell ⟨b, 1, none⟩ (.slice a'' (s.vs.length + 1) c''))) := hd (by
      have hP := h1.putV (Mod.of_below _ b3) (vs' := s.vs ++ [v]) (by rw [iC_app]; exact R3) (by simp) (fun k hk => .inr (B3' k hk))
      refine LnOut.mk' HF.out b1 ((Mod.of_below (fp b a1 a2) b3).setCell (.inl (.inl rfl)) _) (by simpa using hP) (fun k hk => ?_)
      rcases hk with rfl | hk | hk
      · exact .inl (.inl rfl)
      · exact .inr (B3' k hk)
      · exact .inl (.inr (.inr hk)))
    clear R2 R3 M3 M3' B2 B3 B3' b2 b3 HL HF h1 h2 k0 k1
    have hap := hd hap
    have hap3 := hd hap3
    go_wp2_with (first | (at_builtin; first | (refine wpList_append_run rfl _ _ _ rfl _ _ _ _ rfl rfl hap.out ?_; clear hap) | (refine wpList_append_run rfl _ _ _ rfl _ _ _ _ rfl rfl hap3.out ?_)))
    go_ret
    exact ⟨rfl, HE.out⟩
end Go.Proofs.Ytknklbojcnhjcaa
