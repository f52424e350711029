/- The reader's next number. -/
import Derived.Test.YtmjokinagbpihaaDoorQW1
namespace Go.Proofs.YtmjokinagbpihaaDoor
open Go.RowKit

section
variable {w : World} {r : Nat} {a : Option Addr} {cap : Nat} {bs : List Nat} {s : St}
set_option maxRecDepth 100000 in
set_option maxHeartbeats 2000000 in
theorem number_ok (h : RdAt w r a cap bs s) (k : Nat) (hk : 1 ≤ k ∧ k ≤ 8) (h0 : s.e = 0) (hl : s.nx + k ≤ bs.length) :
    Calls Tryd.prog 69 #[.pointer (some ⟨r, 0, none⟩), .int .i64 k] w fun e w' => e = .returned (.int .u64 (sumB bs s.nx k : Nat)) ∧ ROut w r a cap bs { s with fr := s.nx, nx := s.nx + k } w' := by
  have hf := failed_any h false (by simp [h0])
  obtain ⟨b, o, rfl, -⟩ := h.at s.nx (by omega)
  have HC : Hid (∀ i, i < bs.length → w.cell? ⟨b, o + i, none⟩ = some (.int .u8 ((bs.getD i 0 : Nat) : Int))) := hd (fun i hi => by
    obtain ⟨b', o', e, hc⟩ := h.at i hi
    cases e
    exact hc)
  have HB : Hid (Byte bs) := hd h.byte
  have k0 := h.cells.1
  have k1 := h.cells.2.1
  have k2 := h.cells.2.2.1
  have f1 := h.free 1
  have f2 := h.free 2
  have HR : Hid (∀ W : World, Below w.heap.size w W → ROut w r (some ⟨b, o, none⟩) cap bs { s with fr := s.nx, nx := s.nx + k } ((W.setCell ⟨r, 1, none⟩ (.int .i64 s.nx)).setCell ⟨r, 2, none⟩ (.int .i64 (s.nx + k : Nat)))) := hd fun W hW => by
    have h' := h.below hW
    exact ⟨(h'.put 1 _ (s' := { s with fr := s.nx }) rfl h.nx h.nx).put 2 _ (s' := { s with fr := s.nx, nx := s.nx + k }) rfl hl h.nx, (((Mod.of_below (fun k => k = r) hW)).setCell (.inl rfl) _).setCell (.inl rfl) _⟩
  have hle := h.le
  have hS : Hid (∀ j, sumB bs s.nx (j + 1) = sumB bs s.nx j + bs.getD (s.nx + j) 0 * 2 ^ (8 * j)) := hd fun j => rfl
  have hL : Hid (∀ j, sumB bs s.nx j < 2 ^ (8 * j)) := hd (sumB_lt bs s.nx h.byte)
  have hz : Hid (sumB bs s.nx 0 = 0) := hd rfl
  clear h h0
  obtain ⟨fr, nx, e, at_⟩ := s
  simp only at *
  obtain ⟨nk, hnk⟩ : ∃ nk : Nat, nx + k = nk := ⟨_, rfl⟩
  have enk : (nx : Int) + (k : Int) = (nk : Int) := by omega
  rw [hnk] at HR hl
  have HN := hd hnk
  clear hnk
  generalize sumB bs nx = S at *
  have d1 : decide ((bs.length : Int) - (nx : Int) < (k : Int)) = false := by simp; omega
  go_enter Tryd.func69, Tryd.ntmps69
  go_upto_region 3 with (go_at_call 53; refine hf.mono ?_; rintro e w1 ⟨rfl, rfl⟩)
  go_quiet (fail)
  go_upto_region 7 with fail
  go_wp2_with fail
  go_loopg [5, 6, 29, 30, 31, 32, 33, 34, 35, 36, 37, 38, 39, 40, 41, 42, 43, 44, 45, 46, 47, 48, 49, 50] k (fun g v5 v6 v29 v30 v31 v32 v33 v34 v35 v36 v37 v38 v39 v40 v41 v42 v43 v44 v45 v46 v47 v48 v49 v50 wr => ∃ j n : Nat, j + g = k ∧ v29 = .int .i64 (j : Int) ∧ v5 = .int .u64 (S j : Nat) ∧ wr = w1.drewN n)
  case atStart => exact ⟨0, nq, by omega, by go_num, by rw [hz.out]; rfl, rfl⟩
  case round =>
    obtain ⟨j, n, hjk, rfl, rfl, rfl⟩ := hrel
    by_cases h0 : gk = 0
    · subst h0
      have ej : j = k := by omega
      subst ej
      clear hjk
      have k0' : (w1.drewN n).cell? ⟨r, 2, none⟩ = some (.int .i64 nx) := k2
      go_wp2_with fail
      go_region
      go_wp2_with fail
      go_ret
      refine ⟨rfl, ?_⟩
      rw [HN.out]
      exact HR.out _ (below_draw w1 (n + 1))
    · have hlt : j < k := by omega
      have hx := HC.out (nx + j) (by have := HN.out; omega)
      have hor := or_val (hL.out j) (HB.out (nx + j)) (by omega) (hS.out j)
      have hy := HB.out (nx + j)
      generalize bs.getD (nx + j) 0 = y at *
      obtain ⟨m, hm⟩ : ∃ m, nx + j = m := ⟨_, rfl⟩
      have em : (nx : Int) + (j : Int) = (m : Int) := by omega
      have hmn : (m : Int) < (bs.length : Int) := by have := HN.out; omega
      rw [hm] at hx
      clear hm
      obtain ⟨T, hT⟩ : ∃ T, Hid (S (j + 1) = T) := ⟨_, rfl⟩
      rw [hT.out] at hor
      go_upto_region 10 with fail
      go_quiet (fail)
      go_wp2_with fail
      go_roundg (gk - 1)
      case rel => exact ⟨j + 1, _, by omega, by go_num, by rw [hT.out], rfl⟩
      case measure => omega

set_option maxRecDepth 100000 in
set_option maxHeartbeats 1000000 in
theorem number_no (h : RdAt w r a cap bs s) (k : Nat) (h0 : s.e ≠ 0) :
    Calls Tryd.prog 69 #[.pointer (some ⟨r, 0, none⟩), .int .i64 k] w fun e w' => e = .returned (.int .u64 0) ∧ w' = w := by
  have hf := failed_any h true (by simp [h0])
  clear h h0
  go_enter Tryd.func69, Tryd.ntmps69
  go_wp2_with (go_at_call 53; refine hf.mono ?_; rintro e w1 ⟨rfl, rfl⟩)
  go_ret
  exact ⟨rfl, rfl⟩

set_option maxRecDepth 100000 in
set_option maxHeartbeats 1000000 in
theorem number_short (h : RdAt w r a cap bs s) (k : Nat) (hk : k ≤ 8) (h0 : s.e = 0) (hl : bs.length < s.nx + k) :
    Calls Tryd.prog 69 #[.pointer (some ⟨r, 0, none⟩), .int .i64 k] w fun e w' => e = .returned (.int .u64 0) ∧ ROut w r a cap bs { s with e := 5, at_ := bs.length } w' := by
  have hf := failed_any h false (by simp [h0])
  have k0 := h.cells.1
  have k2 := h.cells.2.2.1
  have hle := h.le
  have hnx := h.nx
  have d1 : (bs.length : Int) - (s.nx : Int) < (k : Int) := by omega
  have HF : Hid (∀ W : World, Below w.heap.size w W → Calls Tryd.prog 68 #[.pointer (some ⟨r, 0, none⟩), .int .i64 5, .int .i64 bs.length] W fun e w' => e = .returned (.tuple #[]) ∧ ROut w r a cap bs { s with e := 5, at_ := bs.length } w') := hd fun W hW =>
    (fail_any (h.below hW) 5 bs.length).mono fun e w' ⟨he, ho⟩ => ⟨he, by
      rw [failS, if_pos ⟨h0, by decide⟩] at ho
      exact ⟨ho.1, (Mod.of_below _ hW).trans ho.2 (fun _ h => .inl h)⟩⟩
  clear h h0
  obtain ⟨fr, nx, e, at_⟩ := s
  simp only at *
  go_enter Tryd.func69, Tryd.ntmps69
  go_upto_region 3 with (go_at_call 53; refine hf.mono ?_; rintro e w1 ⟨rfl, rfl⟩)
  go_quiet (fail)
  have HF1 := HF.out (w1.drewN nq) (below_draw w1 nq)
  have k0' : (w1.drewN nq).cell? ⟨r, 0, none⟩ = some (.slice a bs.length cap) := k0
  go_wp2_with (go_at_call 68; refine HF1.mono ?_; rintro e w2 ⟨rfl, ho⟩)
  go_ret
  exact ⟨rfl, ho⟩

theorem rnum_any (h : RdAt w r a cap bs s) (k : Nat) (hk : 1 ≤ k ∧ k ≤ 8) :
    Calls Tryd.prog 69 #[.pointer (some ⟨r, 0, none⟩), .int .i64 k] w fun e w' => e = .returned (.int .u64 ((numS bs k s).1 : Nat)) ∧ ROut w r a cap bs (numS bs k s).2 w' := by
  unfold numS
  by_cases h0 : s.e = 0
  · rw [if_neg (by simp [h0])]
    by_cases hl : bs.length < s.nx + k
    · rw [if_pos hl]
      exact number_short h k hk.2 h0 hl
    · rw [if_neg hl]
      exact number_ok h k hk h0 (by omega)
  · rw [if_pos h0]
    exact (number_no h k h0).mono fun e w' ⟨he, hw⟩ => ⟨he, by subst hw; exact ROut.refl h⟩

theorem numS_lt (hb : Byte bs) (k : Nat) (hk : k ≤ 2) : (numS bs k s).1 < 65536 := by
  unfold numS
  split
  · simp
  · split
    · simp
    · have h1 := sumB_lt bs s.nx hb k
      have h2 : 2 ^ (8 * k) ≤ 2 ^ 16 := Nat.pow_le_pow_right (by decide) (by omega)
      have h3 : (2 : Nat) ^ 16 = 65536 := by decide
      simp only
      omega

set_option maxRecDepth 100000 in
theorem small_any (h : RdAt w r a cap bs s) (k : Nat) (hk : 1 ≤ k ∧ k ≤ 2) :
    Calls Tryd.prog 67 #[.pointer (some ⟨r, 0, none⟩), .int .i64 k] w fun e w' => e = .returned (.int .i64 ((numS bs k s).1 : Nat)) ∧ ROut w r a cap bs (numS bs k s).2 w' := by
  have hn := rnum_any h k ⟨hk.1, by omega⟩
  have hl := numS_lt (s := s) h.byte k hk.2
  generalize (numS bs k s).1 = v at *
  clear h
  go_enter Tryd.func67, Tryd.ntmps67
  go_wp2_with (go_at_call 69; refine hn.mono ?_; rintro e w1 ⟨rfl, ho⟩)
  go_ret
  exact ⟨rfl, ho⟩

/-- A number that has a check. -/
def chkS (bs : List Nat) (k : Nat) (f : Nat → Int) (s : St) : Nat × St := ((numS bs k s).1, failS (numS bs k s).2 (f (numS bs k s).1) (numS bs k s).2.fr)

set_option maxRecDepth 100000 in
set_option maxHeartbeats 1000000 in
theorem count_any (h : RdAt w r a cap bs s) (most : Int) :
    Calls Tryd.prog 57 #[.pointer (some ⟨r, 0, none⟩), .int .i64 most] w fun e w' => e = .returned (.int .i64 ((chkS bs 1 (fun n => cntE most n) s).1 : Nat)) ∧ ROut w r a cap bs (chkS bs 1 (fun n => cntE most n) s).2 w' := by
  have hn := small_any h 1 ⟨by omega, by omega⟩
  have hl := numS_lt (s := s) h.byte 1 (by omega)
  have HF : Hid (∀ (W1 W : World) (s' : St) (x : Int), ROut w r a cap bs s' W1 → Below W1.heap.size W1 W → Calls Tryd.prog 68 #[.pointer (some ⟨r, 0, none⟩), .int .i64 x, .int .i64 s'.fr] W fun e w' => e = .returned (.tuple #[]) ∧ ROut w r a cap bs (failS s' x s'.fr) w') := hd fun W1 W s' x hR hW =>
    (fail_any (hR.after hW).1 x s'.fr).mono fun e w' ⟨he, ho⟩ => ⟨he, (hR.after hW).trans ho⟩
  unfold chkS
  simp only
  have hs := some_any ((numS bs 1 s).1 : Nat) most
  generalize cntE most ((numS bs 1 s).1 : Nat) = E at *
  generalize (numS bs 1 s).1 = v at *
  generalize (numS bs 1 s).2 = s1 at *
  clear h
  go_enter Tryd.func57, Tryd.ntmps57
  go_upto_region 2 with (go_at_call 67; refine hn.mono ?_; rintro e w1 ⟨rfl, ho⟩)
  have k1 := ho.1.cells.2.1
  have HO := hd ho
  clear ho hn
  go_region_with (first | (go_at_call 30; with_reducible refine (hs _).mono ?_; rintro e w2 ⟨rfl, rfl⟩) | (go_at_call 68; refine (HF.out _ _ s1 E HO.out (below_draw _ _)).mono ?_; rintro e w2 ⟨rfl, ho2⟩))
  all_goals go_wp2_with fail
  all_goals go_ret
  all_goals exact ⟨rfl, ho2⟩

set_option maxRecDepth 100000 in
set_option maxHeartbeats 1000000 in
theorem part_any (h : RdAt w r a cap bs s) (P : Nat) (hP : P ≤ 1000000) :
    Calls Tryd.prog 58 #[.pointer (some ⟨r, 0, none⟩), .int .i64 P] w fun e w' => e = .returned (.int .i64 ((chkS bs 1 (fun n => rngE 0 ((P : Int) - 1) n) s).1 : Nat)) ∧ ROut w r a cap bs (chkS bs 1 (fun n => rngE 0 ((P : Int) - 1) n) s).2 w' := by
  have hn := small_any h 1 ⟨by omega, by omega⟩
  have hl := numS_lt (s := s) h.byte 1 (by omega)
  have HF : Hid (∀ (W1 W : World) (s' : St) (x : Int), ROut w r a cap bs s' W1 → Below W1.heap.size W1 W → Calls Tryd.prog 68 #[.pointer (some ⟨r, 0, none⟩), .int .i64 x, .int .i64 s'.fr] W fun e w' => e = .returned (.tuple #[]) ∧ ROut w r a cap bs (failS s' x s'.fr) w') := hd fun W1 W s' x hR hW =>
    (fail_any (hR.after hW).1 x s'.fr).mono fun e w' ⟨he, ho⟩ => ⟨he, (hR.after hW).trans ho⟩
  unfold chkS
  simp only
  have hs := within_any ((numS bs 1 s).1 : Nat) 0 ((P : Int) - 1)
  have eP : IntKind.i64.wrap ((P : Int) - 1) = (P : Int) - 1 := by rw [IntKind.wrap_i64]; omega
  generalize rngE 0 ((P : Int) - 1) ((numS bs 1 s).1 : Nat) = E at *
  generalize (numS bs 1 s).1 = v at *
  generalize (numS bs 1 s).2 = s1 at *
  clear h
  go_enter Tryd.func58, Tryd.ntmps58
  go_upto_region 2 with (go_at_call 67; refine hn.mono ?_; rintro e w1 ⟨rfl, ho⟩)
  have k1 := ho.1.cells.2.1
  have HO := hd ho
  clear ho hn
  go_region_with (first | (go_at_call 29; with_reducible refine (hs _).mono ?_; rintro e w2 ⟨rfl, rfl⟩) | (go_at_call 68; refine (HF.out _ _ s1 E HO.out (below_draw _ _)).mono ?_; rintro e w2 ⟨rfl, ho2⟩))
  all_goals go_wp2_with fail
  all_goals go_ret
  all_goals exact ⟨rfl, ho2⟩
end
end Go.Proofs.YtmjokinagbpihaaDoor
