/- May, the program's and the document's own. -/
import Derived.Test.YtaikeeidjfcijaaW3
namespace Go.Proofs.Ytaikeeidjfcijaa
open Go.RowKit Go.Maps

/-- The cells vs lie at the address a (of none nothing is said). -/
def Cells (w : World) (a : Option Addr) (vs : List Value) : Prop := vs ≠ [] → ∃ b off, a = some ⟨b, off, none⟩ ∧ ∀ i u, vs[i]? = some u → w.cell? ⟨b, off + i, none⟩ = some u

theorem Cells.nil (w : World) (a : Option Addr) : Cells w a [] := fun h => absurd rfl h

theorem Cells.kept {w w' : World} {a : Option Addr} {vs : List Value} (h : Cells w a vs) (hb : Below w.heap.size w w') : Cells w' a vs := fun hne => by
  obtain ⟨b, off, e, hc⟩ := h hne
  exact ⟨b, off, e, fun i u hu => (hb.cell (World.block_lt_of_cell? w _ (hc i u hu))).trans (hc i u hu)⟩

theorem Cells.drewN {w : World} {a : Option Addr} {vs : List Value} (h : Cells w a vs) (n : Nat) : Cells (w.drewN n) a vs := h.kept (below_drewN (Below.refl _ _) n)

theorem lab_at (l : List Nat) (k : Nat) (h : k < l.length) : (labCells l)[k]? = some (.int .u64 (l.getD k 0 : Nat)) := by
  simp [labCells, List.getD_eq_getElem?_getD, h]
theorem int_at (l : List Nat) (k : Nat) (h : k < l.length) : (intCells l)[k]? = some (.int .i64 (l.getD k 0 : Nat)) := by
  simp [intCells, List.getD_eq_getElem?_getD, h]
theorem lab_ne (l : List Nat) (k : Nat) (h : k < l.length) : labCells l ≠ [] := fun e => by
  have := labCells_len l
  rw [e] at this; simp at this; omega
theorem int_ne (l : List Nat) (k : Nat) (h : k < l.length) : intCells l ≠ [] := fun e => by
  have := intCells_len l
  rw [e] at this; simp at this; omega

theorem cells_of_owns {w : World} {B n : Nat} {e : TypeId} {v : Value} {vs : List Value} (h : w.ownsRow B e 1 v n vs) : ∃ a cap, v = .slice a n cap ∧ Cells w a vs ∧ n ≤ cap ∧ vs.length = n := by
  obtain ⟨h1, h2⟩ := h
  rcases h2 with ⟨rfl, rfl⟩ | ⟨g, cap, cur, rfl, hg, hh, hn, hm, hs, ht⟩
  · have : vs = [] := by simpa using h1
    subst this
    exact ⟨none, 0, rfl, Cells.nil _ _, Nat.le_refl _, rfl⟩
  · refine ⟨some ⟨g, 0, none⟩, cap, rfl, fun _ => ⟨g, 0, rfl, fun i u hu => ?_⟩, hn, by simpa using h1⟩
    have hi : i < vs.length := by
      rcases Nat.lt_or_ge i vs.length with h | h
      · exact h
      · rw [List.getElem?_eq_none h] at hu; cases hu
    have := World.ownsRow.cellAt (w := w) (base := B) (e := e) (size := 1) (g := g) (n := n) (cap := cap) (xs := vs) ⟨h1, .inr ⟨g, cap, cur, rfl, hg, hh, hn, hm, hs, ht⟩⟩ i (by omega)
    simpa [hu] using this

theorem mayFrom_same {l : List Nat} {k : Nat} (_h1 : 1 ≤ k) (h : k < l.length) (e : l.getD k 0 = l.getD (k - 1) 0) : mayFrom l (l.length - k) k = (8, k) := by
  rw [show l.length - k = (l.length - (k + 1)) + 1 by omega, mayFrom, if_pos e]
theorem mayFrom_less {l : List Nat} {k : Nat} (_h1 : 1 ≤ k) (h : k < l.length) (e : l.getD k 0 < l.getD (k - 1) 0) : mayFrom l (l.length - k) k = (7, k) := by
  rw [show l.length - k = (l.length - (k + 1)) + 1 by omega, mayFrom, if_neg (by omega), if_pos e]
theorem mayFrom_next {l : List Nat} {k : Nat} (_h1 : 1 ≤ k) (h : k < l.length) (e : l.getD (k - 1) 0 < l.getD k 0) : mayFrom l (l.length - k) k = mayFrom l (l.length - (k + 1)) (k + 1) := by
  rw [show l.length - k = (l.length - (k + 1)) + 1 by omega, mayFrom, if_neg (by omega), if_neg (by omega)]
theorem mayL_start {l : List Nat} (h0 : l.length ≠ 0) (h8 : l.length ≤ 8) : mayL l = mayFrom l (l.length - 1) 1 := by
  unfold mayL; rw [if_neg h0, if_neg (by omega)]

set_option maxRecDepth 100000 in
set_option maxHeartbeats 2000000 in
theorem may_any (a : Option Addr) (cap : Nat) (l : List Nat) (w : World) (hC : Cells w a (labCells l)) :
    Calls Try.prog 10 #[.slice a l.length cap] w fun e w' => e = .returned (.tuple #[.int .i64 (mayL l).1, .int .i64 (mayL l).2]) ∧ ∃ n, w' = w.drewN n := by
  by_cases h0 : l.length = 0
  · have e1 : mayL l = (1, 0) := by unfold mayL; rw [if_pos h0]
    rw [e1]
    have h0' : ((l.length : Int) == 0) = true := by rw [beq_iff_eq]; omega
    clear h0 e1 hC
    generalize l.length = len at *
    go_enter Try.func10, Try.ntmps10
    go_wp2
    go_ret2
    exact ⟨rfl, 0, rfl⟩
  · by_cases h8 : 8 < l.length
    · have e1 : mayL l = (3, 8) := by unfold mayL; rw [if_neg h0, if_pos h8]
      rw [e1]
      have h0' : ((l.length : Int) == 0) = false := by rw [beq_eq_false_iff_ne]; omega
      have h8' : (8 : Int) < (l.length : Int) := by omega
      clear h0 e1 hC h8
      generalize l.length = len at *
      go_enter Try.func10, Try.ntmps10
      go_wp2
      go_ret2
      exact ⟨rfl, 0, rfl⟩
    · have hS : Hid (mayL l = mayFrom l (l.length - 1) 1) := mayL_start h0 (by omega)
      obtain ⟨b, off, rfl, hc⟩ := hC (lab_ne l 0 (by omega))
      have h0' : ((l.length : Int) == 0) = false := by rw [beq_eq_false_iff_ne]; omega
      have h8' : (l.length : Int) ≤ 8 := by omega
      have h8d : decide ((8 : Int) < (l.length : Int)) = false := by simp; omega
      go_enter Try.func10, Try.ntmps10
      go_wp2
      go_loopw [4] (fun i wr => ∃ k : Nat, 1 ≤ k ∧ k ≤ l.length ∧ i = .int .i64 k ∧ Hid (mayL l = mayFrom l (l.length - k) k) ∧ ∃ n, wr = w.drewN n) (fun i _ => l.length - (intOf i).toNat)
      case atStart => exact ⟨1, by omega, by omega, rfl, hS, 0, rfl⟩
      case round =>
        obtain ⟨k, hk1, hk, rfl, hm, n, rfl⟩ := hrel
        by_cases hlt : k < l.length
        · have hx : w.cell? ⟨b, off + k, none⟩ = some (.int .u64 (l.getD k 0 : Nat)) := hc k _ (lab_at l k hlt)
          have hy : w.cell? ⟨b, off + (k - 1), none⟩ = some (.int .u64 (l.getD (k - 1) 0 : Nat)) := hc (k - 1) _ (lab_at l (k - 1) (by omega))
          have hlt' : (k : Int) < (l.length : Int) := by omega
          have hk1' : (1 : Int) ≤ (k : Int) := by omega
          rcases Nat.lt_trichotomy (l.getD k 0) (l.getD (k - 1) 0) with hcmp | hcmp | hcmp
          · have H : Hid (mayL l = (7, k)) := hm.out.trans (mayFrom_less hk1 hlt hcmp)
            clear hm hS
            generalize l.getD k 0 = x at *
            generalize l.getD (k - 1) 0 = y at *
            have t1 : ((x : Int) == (y : Int)) = false := by simp; omega
            have t2 : (x : Int) < (y : Int) := by omega
            clear hcmp
            go_wp2_with fail
            go_quiet (fail)
            go_wp2_with fail
            go_quiet (fail)
            go_wp2
            go_ret2
            exact ⟨by rw [H.out]; rfl, by simp only [World.drewN_drewN]; exact ⟨_, rfl⟩⟩
          · have H : Hid (mayL l = (8, k)) := hm.out.trans (mayFrom_same hk1 hlt hcmp)
            clear hm hS
            generalize l.getD k 0 = x at *
            generalize l.getD (k - 1) 0 = y at *
            have t1 : ((x : Int) == (y : Int)) = true := by simp; omega
            clear hcmp
            go_wp2_with fail
            go_quiet (fail)
            go_wp2
            go_ret2
            exact ⟨by rw [H.out]; rfl, by simp only [World.drewN_drewN]; exact ⟨_, rfl⟩⟩
          · have H : Hid (mayL l = mayFrom l (l.length - (k + 1)) (k + 1)) := hm.out.trans (mayFrom_next hk1 hlt hcmp)
            clear hm hS
            generalize l.getD k 0 = x at *
            generalize l.getD (k - 1) 0 = y at *
            have t1 : ((x : Int) == (y : Int)) = false := by simp; omega
            have t2 : decide ((x : Int) < (y : Int)) = false := by simp; omega
            have t3 : (y : Int) ≤ (x : Int) := by omega
            clear hcmp
            go_wp2_with fail
            go_quiet (fail)
            go_wp2_with fail
            go_quiet (fail)
            go_wp2
            exact ⟨⟨k + 1, by omega, by omega, by go_num, H, _, rfl⟩, by simp [intOf]; omega⟩
        · have e : k = l.length := by omega
          have H : Hid (mayL l = (0, 0)) := by show _ = _; rw [hm.out, e, Nat.sub_self]; rfl
          clear hm hS
          have hlt' : decide ((k : Int) < (l.length : Int)) = false := by simp; omega
          have hge : (l.length : Int) ≤ (k : Int) := by omega
          go_wp2
          go_ret2
          exact ⟨by rw [H.out]; rfl, n, rfl⟩

set_option maxRecDepth 100000 in
set_option maxHeartbeats 2000000 in
theorem rmay_any (a : Option Addr) (cap : Nat) (l : List Nat) (w : World) (hC : Cells w a (labCells l)) :
    Calls Try.prog 11 #[.slice a l.length cap] w fun e w' => e = .returned (.tuple #[.int .i64 (mayL l).1, .int .i64 (mayL l).2]) ∧ ∃ n, w' = w.drewN n := by
  by_cases h0 : l.length = 0
  · have e1 : mayL l = (1, 0) := by unfold mayL; rw [if_pos h0]
    rw [e1]
    have h0' : ((l.length : Int) == 0) = true := by rw [beq_iff_eq]; omega
    clear h0 e1 hC
    generalize l.length = len at *
    go_enter Try.func11, Try.ntmps11
    go_wp2
    go_ret2
    exact ⟨rfl, 0, rfl⟩
  · by_cases h8 : 8 < l.length
    · have e1 : mayL l = (3, 8) := by unfold mayL; rw [if_neg h0, if_pos h8]
      rw [e1]
      have h0' : ((l.length : Int) == 0) = false := by rw [beq_eq_false_iff_ne]; omega
      have h8' : (8 : Int) < (l.length : Int) := by omega
      clear h0 e1 hC h8
      generalize l.length = len at *
      go_enter Try.func11, Try.ntmps11
      go_wp2
      go_ret2
      exact ⟨rfl, 0, rfl⟩
    · have hS : Hid (mayL l = mayFrom l (l.length - 1) 1) := mayL_start h0 (by omega)
      obtain ⟨b, off, rfl, hc⟩ := hC (lab_ne l 0 (by omega))
      have h0' : ((l.length : Int) == 0) = false := by rw [beq_eq_false_iff_ne]; omega
      have h8' : (l.length : Int) ≤ 8 := by omega
      have h8d : decide ((8 : Int) < (l.length : Int)) = false := by simp; omega
      go_enter Try.func11, Try.ntmps11
      go_wp2
      go_loopw [4] (fun i wr => ∃ k : Nat, 1 ≤ k ∧ k ≤ l.length ∧ i = .int .i64 k ∧ Hid (mayL l = mayFrom l (l.length - k) k) ∧ ∃ n, wr = w.drewN n) (fun i _ => l.length - (intOf i).toNat)
      case atStart => exact ⟨1, by omega, by omega, rfl, hS, 0, rfl⟩
      case round =>
        obtain ⟨k, hk1, hk, rfl, hm, n, rfl⟩ := hrel
        by_cases hlt : k < l.length
        · have hx : w.cell? ⟨b, off + k, none⟩ = some (.int .u64 (l.getD k 0 : Nat)) := hc k _ (lab_at l k hlt)
          have hy : w.cell? ⟨b, off + (k - 1), none⟩ = some (.int .u64 (l.getD (k - 1) 0 : Nat)) := hc (k - 1) _ (lab_at l (k - 1) (by omega))
          have hlt' : (k : Int) < (l.length : Int) := by omega
          have hk1' : (1 : Int) ≤ (k : Int) := by omega
          rcases Nat.lt_trichotomy (l.getD k 0) (l.getD (k - 1) 0) with hcmp | hcmp | hcmp
          · have H : Hid (mayL l = (7, k)) := hm.out.trans (mayFrom_less hk1 hlt hcmp)
            clear hm hS
            generalize l.getD k 0 = x at *
            generalize l.getD (k - 1) 0 = y at *
            have t1 : ((x : Int) == (y : Int)) = false := by simp; omega
            have t2 : (x : Int) < (y : Int) := by omega
            clear hcmp
            go_wp2_with fail
            go_quiet (fail)
            go_wp2_with fail
            go_quiet (fail)
            go_wp2
            go_ret2
            exact ⟨by rw [H.out]; rfl, by simp only [World.drewN_drewN]; exact ⟨_, rfl⟩⟩
          · have H : Hid (mayL l = (8, k)) := hm.out.trans (mayFrom_same hk1 hlt hcmp)
            clear hm hS
            generalize l.getD k 0 = x at *
            generalize l.getD (k - 1) 0 = y at *
            have t1 : ((x : Int) == (y : Int)) = true := by simp; omega
            clear hcmp
            go_wp2_with fail
            go_quiet (fail)
            go_wp2
            go_ret2
            exact ⟨by rw [H.out]; rfl, by simp only [World.drewN_drewN]; exact ⟨_, rfl⟩⟩
          · have H : Hid (mayL l = mayFrom l (l.length - (k + 1)) (k + 1)) := hm.out.trans (mayFrom_next hk1 hlt hcmp)
            clear hm hS
            generalize l.getD k 0 = x at *
            generalize l.getD (k - 1) 0 = y at *
            have t1 : ((x : Int) == (y : Int)) = false := by simp; omega
            have t2 : decide ((x : Int) < (y : Int)) = false := by simp; omega
            have t3 : (y : Int) ≤ (x : Int) := by omega
            clear hcmp
            go_wp2_with fail
            go_quiet (fail)
            go_wp2_with fail
            go_quiet (fail)
            go_wp2
            exact ⟨⟨k + 1, by omega, by omega, by go_num, H, _, rfl⟩, by simp [intOf]; omega⟩
        · have e : k = l.length := by omega
          have H : Hid (mayL l = (0, 0)) := by show _ = _; rw [hm.out, e, Nat.sub_self]; rfl
          clear hm hS
          have hlt' : decide ((k : Int) < (l.length : Int)) = false := by simp; omega
          have hge : (l.length : Int) ≤ (k : Int) := by omega
          go_wp2
          go_ret2
          exact ⟨by rw [H.out]; rfl, n, rfl⟩
end Go.Proofs.Ytaikeeidjfcijaa
