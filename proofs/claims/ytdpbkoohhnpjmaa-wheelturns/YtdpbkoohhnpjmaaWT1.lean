/- The law's own: same, own. -/
import Derived.Test.YtdpbkoohhnpjmaaWR4
namespace Go.Proofs.Ytdpbkoohhnpjmaa
open Go.RowKit Go.Sort Go.Shelf Go.Maps

theorem row_id' {w : World} {a : Option Addr} {n c : Nat} {out : List Th} (h : Row w 3 1 a n c (idC out)) (i : Nat) (hi : i < out.length) : ∃ g, a = some ⟨g, 0, none⟩ ∧ w.cell? ⟨g, i, none⟩ = some (.int .i64 (tAt out i).2) := by
  have hl := h.len
  unfold idC at hl
  rw [iC_len, List.length_map] at hl
  obtain ⟨g, rfl, hc⟩ := h.cell i (by omega)
  refine ⟨g, rfl, ?_⟩
  rw [hc]
  unfold idC
  rw [iC_at _ _ (by simpa using hi), List.getD_eq_getElem?_getD, List.getElem?_map, tAt_get hi]
  rfl

set_option maxRecDepth 100000 in
set_option maxHeartbeats 1000000 in
theorem same_any {w : World} {a1 a2 : Option Addr} {n c1 c2 : Nat} {out : List Th} (h1 : Row w 3 1 a1 n c1 (idC out)) (h2 : Row w 3 1 a2 n c2 (idC out)) (hn : n ≤ 8796093022208) :
    Calls Try.prog 10 #[.slice a1 n c1, .slice a2 n c2] w fun e w' => e = .returned (.bool true) ∧ Below w.heap.size w w' := by
  have hl := h1.len
  unfold idC at hl
  rw [iC_len, List.length_map] at hl
  have HL : Hid (out.length = n) := hd (by omega)
  have H1 := hd h1
  have H2 := hd h2
  clear h1 h2 hl
  go_enter Try.func10, Try.ntmps10
  go_wp2_with fail
  go_loopg [5] n (fun k v5 wr => ∃ i : Nat, v5 = .int .i64 (i : Int) ∧ i + k = n ∧ Hid (Below w.heap.size w wr))
  case atStart => exact ⟨0, rfl, by omega, hd (Below.refl _ _)⟩
  case round =>
    obtain ⟨i, rfl, hik, HB⟩ := hrel
    by_cases hlt : i < n
    · have hlt' : (i : Int) < (n : Int) := by omega
      obtain ⟨g, rfl, x0⟩ := row_id' (H1.out.below HB.out) i (by rw [HL.out]; exact hlt)
      obtain ⟨g2, rfl, x1⟩ := row_id' (H2.out.below HB.out) i (by rw [HL.out]; exact hlt)
      have HBD : Hid (∀ m, Below w.heap.size w (wr.drewN m)) := hd (fun m => below_drewN HB.out m)
      generalize (tAt out i).2 = x at *
      have hxx : (x == x) = true := by simp
      go_wp2_with fail
      go_quiet (fail)
      go_wp2_with fail
      go_roundg (gk - 1)
      case measure => omega
      case rel => exact ⟨i + 1, by go_num, by omega, hd (HBD.out _)⟩
    · have ein : i = n := by omega
      subst ein
      go_wp2_with fail
      go_ret
      exact ⟨rfl, HB.out⟩

set_option maxRecDepth 100000 in
set_option maxHeartbeats 1000000 in
theorem own_any {w : World} {a : Option Addr} {n c : Nat} {xs : List Value} (h : Row w 3 1 a n c xs) (hn : n ≤ 8796093022208) :
    Calls Try.prog 21 #[.slice a n c] w fun e w' => e = .returned (.tuple #[]) ∧ Mod (fun k => blk a = some k) w w' := by
  have H0 : Hid (∃ xs, Row w 3 1 a n c xs ∧ Mod (fun k => blk a = some k) w w) := hd ⟨xs, h, Mod.refl _ _⟩
  clear h
  go_enter Try.func21, Try.ntmps21
  go_wp2_with fail
  go_loopg [2] n (fun k v2 wr => ∃ i : Nat, v2 = .int .i64 (i : Int) ∧ i + k = n ∧ Hid (∃ xs, Row wr 3 1 a n c xs ∧ Mod (fun k => blk a = some k) w wr))
  case atStart => exact ⟨0, rfl, by omega, H0⟩
  case round =>
    obtain ⟨i, rfl, hik, HR⟩ := hrel
    clear H0
    obtain ⟨ys, hR, hM⟩ := HR.out
    by_cases hlt : i < n
    · have hlt' : (i : Int) < (n : Int) := by omega
      obtain ⟨g, rfl, x0⟩ := hR.cell i (by omega)
      have hys : i < ys.length := by have := hR.len; omega
      rw [List.getElem?_eq_getElem hys] at x0
      have x1 := hR.free i g rfl
      have HE : Hid (∃ xs, Row (wr.setCell ⟨g, i, none⟩ (.int .i64 (-3))) 3 1 (some ⟨g, 0, none⟩) n c xs ∧ Mod (fun k => blk (some ⟨g, 0, none⟩) = some k) w (wr.setCell ⟨g, i, none⟩ (.int .i64 (-3)))) := hd ⟨_, hR.put i _, hM.setCell (p := ⟨g, i, none⟩) (.inl rfl) _⟩
      generalize ys[i] = u at *
      clear HR hR hM
      go_wp2_with fail
      go_roundg (gk - 1)
      case measure => omega
      case rel => exact ⟨i + 1, by go_num, by omega, HE⟩
    · have ein : i = n := by omega
      subst ein
      have H2 : Hid (∃ xs, Row wr 3 1 a (i + 0) c xs ∧ Mod (fun k => blk a = some k) w wr ∧ ∀ k, blk a = some k → blk a = some k ∨ w.heap.size ≤ k) := hd ⟨ys, hR, hM, fun _ h => .inl h⟩
      obtain ⟨wo, hwo⟩ : ∃ W, Hid (W = wr) := ⟨_, rfl⟩
      rw [← hwo.out] at H2 ⊢
      clear HR hR hM hwo hik hlt
      go_wp2_with fail
      go_loopg [0, 3] 20 (fun k v0 v3 wr => ∃ (j m : Nat) (a' : Option Addr) (c' : Nat), v0 = .slice a' m c' ∧ v3 = .int .i64 (j : Int) ∧ j + k = 20 ∧ m = i + j ∧ Hid (∃ xs, Row wr 3 1 a' m c' xs ∧ Mod (fun k => blk a = some k) w wr ∧ ∀ k, blk a' = some k → blk a = some k ∨ w.heap.size ≤ k))
      case atStart => exact ⟨0, i, a, c, rfl, rfl, rfl, rfl, H2⟩
      case round =>
        obtain ⟨j, m, a', c', rfl, rfl, hjk, hmj, HR⟩ := hrel
        clear H2
        obtain ⟨ys, hR, hM, hN⟩ := HR.out
        by_cases hlt : j < 20
        · have hlt' : (j : Int) < 20 := by omega
          obtain ⟨a2, c2, w2, hap, R2, M2, B2⟩ := push_any (T := 35) (e := 3) (z := .int .i64 0) (size := 1) (bytes := 8) Try.underlying35 infoN rfl hR (by unfold maxLen; omega) (by omega) [.int .i64 (-4)] rfl (by simp [Value.oneCell'])
          have HE : Hid (∃ xs, Row w2 3 1 a2 (m + 1) c2 xs ∧ Mod (fun k => blk a = some k) w w2 ∧ ∀ k, blk a2 = some k → blk a = some k ∨ w.heap.size ≤ k) := hd ⟨_, R2, hM.trans M2 hN, fun k hk => by
            rcases B2 k hk with h | h
            · exact hN k h
            · exact .inr (Nat.le_trans hM.size h)⟩
          replace hap := hd hap
          have HMJ := hd hmj
          clear HR hR hM hN R2 M2 B2 hmj
          go_wp2_with (first | (at_builtin; refine wpList_append_run rfl _ _ _ rfl _ _ _ _ rfl rfl hap.out ?_))
          go_roundg (gk - 1)
          case measure => omega
          case rel => exact ⟨j + 1, m + 1, a2, c2, rfl, by go_num, by omega, by have := HMJ.out; omega, HE⟩
        · have ejn : j = 20 := by omega
          subst ejn
          have HE := hd hM
          clear HR hR hM hN hmj
          go_wp2_with fail
          go_end0
          exact ⟨rfl, HE.out⟩
end Go.Proofs.Ytdpbkoohhnpjmaa
