/- New. -/
import Derived.Test.YtdihbbpndijdoaaKWD
namespace Go.Proofs.Ytdihbbpndijdoaa
open Go.RowKit Go.Maps

theorem new_bad {w : World} {n : Int} (h : n < 0 ∨ 8 < n) : Calls Try.prog 8 #[.int .i64 n] w fun e w' => e = .returned (.tuple #[.pointer none, .int .i64 1]) ∧ w' = w := by
  by_cases h1 : n < 0
  · clear h
    go_enter Try.func8, Try.ntmps8
    go_wp2_with fail
    go_ret2
    exact ⟨rfl, rfl⟩
  · have h2 : 8 < n := by omega
    have h1' : decide (n < 0) = false := by simpa using h1
    clear h h1
    go_enter Try.func8, Try.ntmps8
    go_wp2_with fail
    go_ret2
    exact ⟨rfl, rfl⟩

theorem layF_nils (n : Nat) (pre : Qs) : layF pre (List.replicate n (-1)) (List.replicate n []) = true := by
  induction n generalizing pre with
  | zero => rfl
  | succ n ih =>
    rw [List.replicate_succ, List.replicate_succ, layF]
    have : addOk pre (-1) [] = true := by simp [addOk, addQ]
    rw [if_pos this]
    exact ih _
theorem qsOf_nils (n : Nat) : qsOf (List.replicate n (none, 0, [])) = List.replicate n [] := by simp [qsOf]
theorem total_nils (n : Nat) : total (List.replicate n []) = 0 := by simp [total]

/-- What New leaves. -/
def NewOut (w : World) (n : Nat) (e : Ending) (w' : World) : Prop := Below w.heap.size w w' ∧ ∃ b F, e = .returned (.tuple #[.pointer (some ⟨b, 0, none⟩), .int .i64 0]) ∧ Lk w' b F (List.replicate n (-1)) (List.replicate n []) ∧ ∀ k, F k → w.heap.size ≤ k

theorem NewOut.ex {w w' : World} {n : Nat} {e : Ending} (h : NewOut w n e w') : ∃ b, e = .returned (.tuple #[.pointer (some ⟨b, 0, none⟩), .int .i64 0]) ∧ Hid (NewOut w n e w') := by
  obtain ⟨h1, b, F, h2, h3⟩ := h
  exact ⟨b, h2, hd ⟨h1, b, F, h2, h3⟩⟩
set_option maxRecDepth 100000 in
set_option maxHeartbeats 4000000 in
theorem new_any {w : World} {n : Nat} (h8 : n ≤ 8) : Calls Try.prog 8 #[.int .i64 (n : Int)] w (NewOut w n) := by
  have hmk := fun W => make_eq 34 33 _ 1 24 Try.underlying34 infoL n (by omega) (by unfold maxLen; omega) W
  obtain ⟨MC, hMC⟩ : ∃ MC, Hid (madeCells (Value.slice none 0 0).cells (n * 1) = MC) := ⟨_, rfl⟩
  rw [hMC.out] at hmk
  have HMQ : Hid (∀ (W W' : World) (g : Nat), W.heap.size = g → Below (W.alloc (.cells MC 33)).heap.size (W.alloc (.cells MC 33)) W' → RdQ W' (some ⟨g, 0, none⟩) (List.replicate n (none, 0, []))) := hd (fun W W' g hg hb => by
    subst hg
    have hh := heap_alloc_new W (.cells MC 33)
    have hsz : MC.size = n * 1 := by rw [← hMC.out, ← Array.length_toList, made_nils, sC_len]; simp
    have hr := row_new (size := 1) (n := n) hh hsz (by unfold maxLen; omega)
    rw [← hMC.out, made_nils, hMC.out] at hr
    refine RdQ.below ⟨hr.rd, fun i hi j u hj => ?_⟩ hb
    rw [eAt_nils] at hj
    simp [iC] at hj)
  have HLAY : Hid (∀ (W : World) a1 a2 c1, Rd W a1 (iC (List.replicate n (-1))) → RdQ W a2 (List.replicate n (none, 0, [])) → Below w.heap.size w W → Calls Try.prog 11 #[.slice a1 n c1, .slice a2 n n] W (NewOut w n)) := hd (fun W a1 a2 c1 h1 h2 hb => by
    have h3 := lay_any (c1 := c1) (c2 := n) h1 h2 (hd (by simp)) (hd (by simp)) h8 (fun o ho => by rw [List.eq_of_mem_replicate ho]; exact ⟨by decide, by decide⟩) (fun i p hp => by rw [qAt_of, eAt_nils] at hp; cases hp) (by rw [qsOf_nils, total_nils]; decide)
    rw [qsOf_nils, layF_nils] at h3
    refine h3.mono ?_
    rintro e w' ⟨hb2, ⟨hc, _⟩ | ⟨_, b, F, he, hl, hf⟩⟩
    · cases hc
    · exact ⟨hb.trans (hb2.mono hb.size), b, F, he, hl, fun k hk => Nat.le_trans hb.size (hf k hk)⟩)
  have HREP : Hid (∀ (W : World) gx, W.cell? ⟨gx, 0, none⟩ = some (.int .i64 (-1)) → Calls Try.prog 21 #[.slice (some ⟨gx, 0, none⟩) 1 1, .int .i64 (n : Int)] W fun e w' => ∃ a c, e = .returned (.slice a n c) ∧ Rd w' a (iC (List.replicate n (-1))) ∧ Below W.heap.size W w') := hd (fun W gx hc => repeat_any hc h8)
  have bA := below_al w (.cells #[.int .i64 (-1)] 3)
  have bM := below_al w (.cells MC 33)
  have bAM := below_al (w.alloc (.cells #[.int .i64 (-1)] 3)) (.cells MC 33)
  have bMA := below_al (w.alloc (.cells MC 33)) (.cells #[.int .i64 (-1)] 3)
  have f1 : (w.alloc (.cells #[.int .i64 (-1)] 3)).cell? ⟨w.heap.size, 0, none⟩ = some (.int .i64 (-1)) := by simp
  have f2 : ((w.alloc (.cells MC 33)).alloc (.cells #[.int .i64 (-1)] 3)).cell? ⟨w.heap.size + 1, 0, none⟩ = some (.int .i64 (-1)) := by
    have h := heap_alloc_new (w.alloc (.cells MC 33)) (.cells #[.int .i64 (-1)] 3)
    rw [show (w.alloc (.cells MC 33)).heap.size = w.heap.size + 1 by simp] at h
    rw [cell_of_row _ _ _ _ _ _ h]; simp
  have f3 : ((w.alloc (.cells #[.int .i64 (-1)] 3)).alloc (.cells MC 33)).cell? ⟨w.heap.size, 0, none⟩ = some (.int .i64 (-1)) := (bAM.cell (p := ⟨w.heap.size, 0, none⟩) (by simp)).trans f1
  have HBA := hd bA.drew
  have HBAM := hd (bA.trans (bAM.mono bA.size)).drew
  have HDR : Hid (∀ (W w3 : World), Below W.drew.heap.size W.drew w3 → Below W.heap.size W w3) := hd (fun W w3 h => ((Below.refl _ W).drew).trans h)
  have HBMA := hd (bM.trans (bMA.mono bM.size)).drew
  have HBMA2 := hd bMA.drew
  have h1' : decide (8 < n) = false := by simpa using h8
  have hr1 := HREP.out (w.alloc (.cells #[.int .i64 (-1)] 3)).drew w.heap.size f1
  have hr2 := HREP.out ((w.alloc (.cells MC 33)).alloc (.cells #[.int .i64 (-1)] 3)).drew (w.heap.size + 1) f2
  have hr3 := HREP.out ((w.alloc (.cells #[.int .i64 (-1)] 3)).alloc (.cells MC 33)).drew w.heap.size f3
  clear bA bM bAM bMA HREP f1 f2 f3
  go_enter Try.func8, Try.ntmps8
  go_upto_region 3 with fail
  go_region_law
    (first
      | (go_simp; with_reducible refine hr1.mono ?_; rintro e3 w3 ⟨a, c, rfl, r1, r2⟩
         have b3 := HBA.out.trans (r2.mono HBA.out.size)
         have hlay := HLAY.out (w3.alloc (.cells MC 33)) a (some ⟨w3.heap.size, 0, none⟩) c (r1.below (below_al w3 _)) (HMQ.out w3 _ _ rfl (below_same _)) (b3.trans ((below_al w3 _).mono b3.size))
         clear r1 r2 b3)
      | (go_simp; with_reducible refine hr2.mono ?_; rintro e3 w3 ⟨a, c, rfl, r1, r2⟩
         have hlay := HLAY.out w3 a (some ⟨w.heap.size, 0, none⟩) c r1 (HMQ.out w w3 _ rfl (HBMA2.out.trans (r2.mono HBMA2.out.size))) (HBMA.out.trans (r2.mono HBMA.out.size))
         clear r1 r2)
      | (go_simp; with_reducible refine hr3.mono ?_; rintro e3 w3 ⟨a, c, rfl, r1, r2⟩
         have hlay := HLAY.out w3 a (some ⟨w.heap.size + 1, 0, none⟩) c r1 (HMQ.out (w.alloc (.cells #[.int .i64 (-1)] 3)) w3 _ (by simp) (HDR.out _ _ r2)) (HBAM.out.trans (r2.mono HBAM.out.size))
         clear r1 r2)
      | (go_simp; with_reducible refine hlay.mono ?_; rintro e4 w4 h4
         obtain ⟨b, rfl, HE⟩ := h4.ex
         clear h4 hlay))
  all_goals go_wp2_with fail
  all_goals go_ret2
  all_goals exact HE.out
end Go.Proofs.Ytdihbbpndijdoaa
