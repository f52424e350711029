/- Where a process waits. -/
import Derived.Test.YtknklbojcnhjcaaLW4
namespace Go.Proofs.Ytknklbojcnhjcaa
open Go.RowKit

theorem place1_any {pb : Nat} {p q v : Int} {w : World} (hc : w.cell? ⟨pb, 0, none⟩ = some (.int .i64 p)) (hl : pb < w.heap.size) (B : Bool) (hB : (q == p) = B) :
    Calls Try.prog 76 #[.agg #[.int .i64 q, .int .i64 v], .pointer (some ⟨pb, 0, none⟩)] w fun e w' => e = .returned (.bool B) ∧ Below w.heap.size w w' := by
  have hne := Nat.ne_of_lt hl
  go_enter Try.func76, Try.ntmps76
  go_wp2_with fail
  go_ret
  exact ⟨rfl, (Below.refl _ _).alloc (Nat.le_refl _) _⟩

/-- Cells of those who wait, at an address. -/
theorem rd_w {w : World} {a : Option Addr} {ws : List (Int × Int)} (h : Rd w a (wC ws)) (i : Nat) (hi : i < ws.length) : ∃ b o, a = some ⟨b, o, none⟩ ∧ w.cell? ⟨b, o + i * 2, none⟩ = some (.int .i64 (ws.getD i (0, 0)).1) ∧ w.cell? ⟨b, o + i * 2 + 1, none⟩ = some (.int .i64 (ws.getD i (0, 0)).2) := by
  obtain ⟨h1, h2⟩ := wC_at ws i hi
  obtain ⟨b, o, rfl, k1⟩ := h _ _ h1
  obtain ⟨b', o', e, k2⟩ := h _ _ h2
  cases e
  exact ⟨b, o, rfl, k1, k2⟩
theorem rd_i {w : World} {a : Option Addr} {vs : List Int} (h : Rd w a (iC vs)) (i : Nat) (hi : i < vs.length) : ∃ b o, a = some ⟨b, o, none⟩ ∧ w.cell? ⟨b, o + i, none⟩ = some (.int .i64 (vs.getD i 0)) := by
  obtain ⟨b, o, rfl, k1⟩ := h _ _ (iC_at vs i hi)
  exact ⟨b, o, rfl, k1⟩

set_option maxRecDepth 100000 in
set_option maxHeartbeats 2000000 in
theorem index_any {a : Option Addr} {cap pb : Nat} {p : Int} {ws : List (Int × Int)} {w : World} (hR : Rd w a (wC ws)) (hc : w.cell? ⟨pb, 0, none⟩ = some (.int .i64 p)) (hl : pb < w.heap.size) (hn : ws.length ≤ 8000000000000) :
    Calls Try.prog 75 #[.slice a ws.length cap, .func (.func 76) #[] #[.pointer (some ⟨pb, 0, none⟩)]] w fun e w' => e = .returned (.int .i64 (idxL ws p)) ∧ Below w.heap.size w w' := by
  obtain ⟨I, hI⟩ : ∃ I, Hid (idxL ws p = I) := ⟨_, rfl⟩
  rw [hI.out]
  have HR := hd hR
  have HC := hd hc
  clear hR hc
  go_enter Try.func75, Try.ntmps75
  go_wp2_with fail
  go_loopg [5, 8] ws.length (fun k v5 v8 wr => ∃ i : Nat, v8 = .int .i64 i ∧ i + k = ws.length ∧ Hid (Below w.heap.size w wr ∧ ∀ j, j < i → (ws.getD j (0, 0)).1 ≠ p))
  case atStart => exact ⟨0, rfl, by omega, hd ⟨below_same _, fun j hj => absurd hj (Nat.not_lt_zero j)⟩⟩
  case round =>
    obtain ⟨i, rfl, hik, HH⟩ := hrel
    have hb := HH.out.1
    by_cases hlt : i < ws.length
    · have hlt' : (i : Int) < (ws.length : Int) := by omega
      obtain ⟨b, o, rfl, c0, c1⟩ := rd_w (HR.out.below hb) i hlt
      have hp := (hb.cell (p := ⟨pb, 0, none⟩) hl).trans HC.out
      have hpl := Nat.lt_of_lt_of_le hl hb.size
      obtain ⟨⟨q, v⟩, hq⟩ : ∃ t, Hid (ws.getD i (0, 0) = t) := ⟨_, rfl⟩
      rw [hq.out] at c0 c1
      simp only at c0 c1
      by_cases he : q = p
      · have hcl := place1_any (q := q) (v := v) hp hpl true (by simp [he])
        have hF : Hid (I = (i : Int)) := hd (by rw [← hI.out]; exact idxL_some hlt (by rw [hq.out]; exact he) HH.out.2)
        clear he
        go_wp2_with (first | (go_at_call 76; refine hcl.mono ?_; rintro e1 w1 ⟨rfl, b1⟩))
        go_ret
        exact ⟨by rw [hF.out]; rfl, hb.trans (b1.mono hb.size)⟩
      · have hcl := place1_any (q := q) (v := v) hp hpl false (by simp [he])
        have HN : Hid (q ≠ p) := hd he
        clear he
        go_wp2_with (first | (go_at_call 76; refine hcl.mono ?_; rintro e1 w1 ⟨rfl, b1⟩))
        go_roundg (gk - 1)
        case measure => omega
        case rel =>
          exact ⟨i + 1, by go_num, by omega, hd ⟨hb.trans (b1.mono hb.size), fun j hj => by
            by_cases ej : j = i
            · rw [ej, hq.out]; exact HN.out
            · exact HH.out.2 j (by omega)⟩⟩
    · have hltd : decide ((i : Int) < (ws.length : Int)) = false := by simp; omega
      have hF : Hid (I = -1) := hd (by rw [← hI.out]; exact idxL_none (fun j hj => HH.out.2 j (by omega)))
      go_wp2_with fail
      go_ret
      exact ⟨by rw [hF.out]; rfl, hb⟩

set_option maxRecDepth 100000 in
theorem place_any {b : Nat} {F : Nat → Prop} {s : LS} {w : World} (h : Ln w 89 b F s) (p : Int) (hn : s.ws.length ≤ 8000000000000) :
    Calls Try.prog 73 #[.pointer (some ⟨b, 0, none⟩), .int .i64 p] w fun e w' => e = .returned (.int .i64 (idxL s.ws p)) ∧ Below w.heap.size w w' := by
  obtain ⟨a1, c1, a2, c2, h, -, -⟩ := h
  have h2 := h.below (below_al w (.cells #[.int .i64 p] 3))
  obtain ⟨k0, k1, k2, k3, k4⟩ := h2.cells
  have hmf : ∀ (fn : Fn) (first cap : Array Value) (w : World), (Instr.makeFunc fn first cap).run Try.prog w = .ok (.func fn first cap) w := fun _ _ _ _ => rfl
  have hpb : (w.alloc (.cells #[.int .i64 p] 3)).cell? ⟨w.heap.size, 0, none⟩ = some (.int .i64 p) := by rw [cell_of_row _ _ _ _ _ _ (heap_alloc_new w _)]; rfl
  have hcl := index_any (cap := c2) h2.wts.rd hpb (by simp) hn
  have HB : Hid (Below w.heap.size w (w.alloc (.cells #[.int .i64 p] 3))) := hd (below_al w _)
  clear h h2 hpb
  go_enter Try.func73, Try.ntmps73
  go_wp2_with (first | (go_at_call 75; refine hcl.mono ?_; rintro e1 w1 ⟨rfl, b1⟩))
  go_ret
  exact ⟨rfl, HB.out.trans (b1.mono HB.out.size)⟩
end Go.Proofs.Ytknklbojcnhjcaa
