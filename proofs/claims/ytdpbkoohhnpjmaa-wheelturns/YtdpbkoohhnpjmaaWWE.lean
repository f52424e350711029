/- counts. -/
import Derived.Test.YtdpbkoohhnpjmaaWWD
namespace Go.Proofs.Ytdpbkoohhnpjmaa
open Go.RowKit Go.Sort Go.Shelf Go.Maps

set_option maxRecDepth 100000 in
set_option maxHeartbeats 1000000 in
theorem counts_any {w : World} {b m : Nat} {a : Option Addr} {c : Nat} {L O : List Th} (h : WhAt w b m a c L O) {t : Th} (ht : FitT t) (B : Bool) (hB : B = decide (t ∈ L)) :
    Calls Try.prog 30 #[.pointer (some ⟨b, 0, none⟩), .agg #[.int .i64 t.1, .int .i64 t.2]] w fun e w' => e = .returned (.bool B) ∧ Below w.heap.size w w' := by
  obtain ⟨n1, n2, is, hc, hlk⟩ := h.counts ht
  rw [← hB] at hc
  have c0 := h.hp.c0
  have hbl := h.hp.blt
  obtain ⟨t1, t2⟩ := t
  simp only at hc hlk ⊢
  clear h ht hB
  go_enter Try.func30, Try.ntmps30
  go_upto_region 1 with fail
  obtain ⟨w0, hw0⟩ : ∃ W, Hid (w.alloc (.cells #[.int .i64 t1, .int .i64 t2] 60) = W) := ⟨_, rfl⟩
  have hB0 : Below w.heap.size w w0 := by rw [← hw0.out]; exact below_al w _
  have x0 : w0.cell? ⟨w.heap.size, 0, none⟩ = some (.int .i64 t1) := by rw [← hw0.out]; simp
  have x1 : w0.cell? ⟨w.heap.size, 1, none⟩ = some (.int .i64 t2) := by rw [← hw0.out]; simp
  have x2 : w0.cell? ⟨b, 0, none⟩ = some (.map (some m)) := (hB0.cell (p := ⟨b, 0, none⟩) hbl).trans c0
  have hne : w.heap.size < w0.heap.size := by rw [← hw0.out]; simp
  rw [hw0.out]
  obtain ⟨G, hG⟩ : ∃ G, Hid (w.heap.size = G) := ⟨_, rfl⟩
  rw [hG.out] at x0 x1 hne ⊢
  have hl0 := hlk w0.drew hB0.drew
  have bA := below_al w0 (.cells #[.int .i64 0, .int .i64 0] 60)
  have hl1 := hlk (w0.alloc (.cells #[.int .i64 0, .int .i64 0] 60)).drew (Below.trans hB0 (bA.mono hB0.size)).drew
  have y0 : (w0.alloc (.cells #[.int .i64 0, .int .i64 0] 60)).cell? ⟨G, 0, none⟩ = some (.int .i64 t1) := (bA.cell (p := ⟨G, 0, none⟩) hne).trans x0
  have y1 : (w0.alloc (.cells #[.int .i64 0, .int .i64 0] 60)).cell? ⟨G, 1, none⟩ = some (.int .i64 t2) := (bA.cell (p := ⟨G, 1, none⟩) hne).trans x1
  have y2 : (w0.alloc (.cells #[.int .i64 0, .int .i64 0] 60)).cell? ⟨b, 0, none⟩ = some (.map (some m)) := (bA.cell (p := ⟨b, 0, none⟩) (by show b < w0.heap.size; rw [hG.out] at hbl; omega)).trans x2
  have HB := hd hB0
  clear hw0 hB0 c0 hlk bA
  have HE : Hid (∀ W : World, Below w0.heap.size w0 W → Below w.heap.size w W) := hd (fun W h => HB.out.trans (h.mono (by rw [hG.out]; exact Nat.le_of_lt hne)))
  have bF : Below w0.heap.size w0 (w0.alloc (.cells #[.int .i64 n1, .int .i64 n2] 60)).drew := (below_al w0 _).drew
  have z0 : (w0.alloc (.cells #[.int .i64 n1, .int .i64 n2] 60)).cell? ⟨G, 0, none⟩ = some (.int .i64 t1) := (bF.cell (p := ⟨G, 0, none⟩) hne).trans x0
  have z1 : (w0.alloc (.cells #[.int .i64 n1, .int .i64 n2] 60)).cell? ⟨G, 1, none⟩ = some (.int .i64 t2) := (bF.cell (p := ⟨G, 1, none⟩) hne).trans x1
  have HF := hd bF
  clear bF HB
  cases is with
  | false =>
    obtain rfl : B = false := by rw [← hc]; rfl
    clear hc
    go_region
    all_goals go_wp2_with fail
    all_goals go_ret
    all_goals exact ⟨rfl, HE.out _ HF.out⟩
  | true =>
    by_cases e1 : n1 = t1
    · by_cases e2 : n2 = t2
      · obtain rfl : B = true := by rw [← hc]; simp [e1, e2]
        subst e1 e2
        clear hc
        go_region
        all_goals go_wp2_with fail
        all_goals go_ret
        all_goals exact ⟨rfl, HE.out _ HF.out⟩
      · obtain rfl : B = false := by rw [← hc]; simp [e2]
        have e2' : (n2 == t2) = false := by simpa using e2
        subst e1
        clear hc e2
        go_region
        all_goals go_wp2_with fail
        all_goals go_ret
        all_goals exact ⟨rfl, HE.out _ HF.out⟩
    · obtain rfl : B = false := by rw [← hc]; simp [e1]
      have e1' : (n1 == t1) = false := by simpa using e1
      clear hc e1
      go_region
      all_goals go_wp2_with fail
      all_goals go_ret
      all_goals exact ⟨rfl, HE.out _ HF.out⟩
end Go.Proofs.Ytdpbkoohhnpjmaa
