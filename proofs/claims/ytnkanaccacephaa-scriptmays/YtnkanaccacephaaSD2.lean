/- The document's reader: what is wrong, the next number, a number with its limits. -/
import Derived.Test.YtnkanaccacephaaSD1
namespace Go.Proofs.Ytnkanaccacephaa.Doc
open Go.RowKit

section
variable {w : World} {r : Nat} {a : Option Addr} {cap : Nat} {bs : List Nat} {s : St}
set_option maxRecDepth 100000 in
theorem fail_any (h : RdAt w r a cap bs s) (x y : Int) (hx : x ≠ 0) :
    Calls Try.prog 28 #[.pointer (some ⟨r, 0, none⟩), .int .i64 x, .int .i64 y] w fun e w' => e = .returned (.tuple #[]) ∧ ROut w r a cap bs (failS s x y) w' := by
  by_cases h0 : s.e = 0
  · have HR : Hid (ROut w r a cap bs (failS s x y) ((w.setCell ⟨r, 2, none⟩ (.int .i64 x)).setCell ⟨r, 3, none⟩ (.int .i64 y))) := hd (by
      rw [failS, if_pos ⟨h0, hx⟩]
      exact ⟨(h.put 2 _ (s' := { s with e := x }) rfl h.nx h.fr).put 3 _ (s' := { s with e := x, at_ := y }) rfl h.nx h.fr, ((Mod.refl (fun k => k = r) w).setCell (.inl rfl) _).setCell (.inl rfl) _⟩)
    have k2 := h.cells.2.2.1
    have k3 := h.cells.2.2.2
    have f2 := h.free 2
    have f3 := h.free 3
    rw [h0] at k2
    clear h h0 hx
    go_enter Try.func28, Try.ntmps28
    go_wp2_with fail
    refine bodyPost_end (results_none rfl _ _ _) rfl ?_
    exact ⟨rfl, HR.out⟩
  · have HR : Hid (ROut w r a cap bs (failS s x y) w) := hd (by rw [failS, if_neg (by simp [h0])]; exact ROut.refl h)
    have k2 := h.cells.2.2.1
    have d0 : (s.e == 0) = false := by simpa using h0
    clear h h0 hx
    go_enter Try.func28, Try.ntmps28
    go_wp2_with fail
    refine bodyPost_end (results_none rfl _ _ _) rfl ?_
    exact ⟨rfl, HR.out⟩

set_option maxRecDepth 100000 in
set_option maxHeartbeats 2000000 in
theorem number_ok (h : RdAt w r a cap bs s) (k : Nat) (hk : 1 ≤ k ∧ k ≤ 8) (h0 : s.e = 0) (hl : s.nx + k ≤ bs.length) :
    Calls Try.prog 27 #[.pointer (some ⟨r, 0, none⟩), .int .i64 k] w fun e w' => e = .returned (.int .u64 (sumB bs s.nx k : Nat)) ∧ ROut w r a cap bs { s with fr := s.nx, nx := s.nx + k } w' := by
  obtain ⟨b, o, rfl, -⟩ := h.at s.nx (by omega)
  have HC : Hid (∀ i, i < bs.length → w.cell? ⟨b, o + i, none⟩ = some (.int .u8 ((bs.getD i 0 : Nat) : Int))) := hd (fun i hi => by
    obtain ⟨b', o', e, hc⟩ := h.at i hi
    cases e
    exact hc)
  have HB : Hid (Byte bs) := hd h.byte
  have k0 := h.cells.1
  have k1 := h.cells.2.1
  have k2 := h.cells.2.2.1
  rw [h0] at k2
  have f1 := h.free 1
  have HR : Hid (∀ W : World, Below w.heap.size w W → ROut w r (some ⟨b, o, none⟩) cap bs { s with fr := s.nx, nx := s.nx + k } (W.setCell ⟨r, 1, none⟩ (.int .i64 (s.nx + k : Nat)))) := hd fun W hW => by
    have h' := h.below hW
    exact ⟨h'.put 1 _ (s' := { s with fr := s.nx, nx := s.nx + k }) rfl hl h.nx, ((Mod.of_below (fun k => k = r) hW)).setCell (.inl rfl) _⟩
  have hle := h.le
  have hS : Hid (∀ j, sumB bs s.nx (j + 1) = sumB bs s.nx j + bs.getD (s.nx + j) 0 * 2 ^ (8 * j)) := hd fun j => rfl
  have hL : Hid (∀ j, sumB bs s.nx j < 2 ^ (8 * j)) := hd (sumB_lt bs s.nx h.byte)
  have hz : Hid (sumB bs s.nx 0 = 0) := hd rfl
  clear h h0
  obtain ⟨fr, nx, e, at_⟩ := s
  simp only at *
  obtain ⟨nk, hnk⟩ : ∃ nk : Nat, nx + k = nk := ⟨_, rfl⟩
  have enk : (nx : Int) + (k : Int) = (nk : Int) := by omega
  rw [hnk] at HR hl
  have HN := hd hnk
  clear hnk
  generalize sumB bs nx = S at *
  have d1 : decide ((bs.length : Int) - (nx : Int) < (k : Int)) = false := by simp; omega
  go_enter Try.func27, Try.ntmps27
  go_upto_region 3 with fail
  go_quiet (fail)
  go_upto_region 7 with fail
  go_wp2_with fail
  go_loopg [5, 6, 31, 32, 33, 34, 35, 36, 37, 38, 39, 40, 41, 42, 43, 44, 45, 46, 47, 48, 49, 50, 51, 52, 53] k (fun g v5 v6 v31 v32 v33 v34 v35 v36 v37 v38 v39 v40 v41 v42 v43 v44 v45 v46 v47 v48 v49 v50 v51 v52 v53 wr => ∃ j n : Nat, j + g = k ∧ v6 = .int .i64 (j : Int) ∧ v5 = .int .u64 (S j : Nat) ∧ wr = w.drewN n)
  case atStart => exact ⟨0, nq, by omega, by go_num, by rw [hz.out]; rfl, rfl⟩
  case round =>
    obtain ⟨j, n, hjk, rfl, rfl, rfl⟩ := hrel
    by_cases h0 : gk = 0
    · subst h0
      have ej : j = k := by omega
      subst ej
      clear hjk
      have k1' : (w.drewN n).cell? ⟨r, 1, none⟩ = some (.int .i64 nx) := k1
      go_wp2_with fail
      go_ret
      rw [HN.out]
      exact ⟨rfl, HR.out _ (below_draw w n)⟩
    · have hlt : j < k := by omega
      have hx := HC.out (nx + j) (by have := HN.out; omega)
      have hor := or_val (hL.out j) (HB.out (nx + j)) (by omega) (hS.out j)
      have hy := HB.out (nx + j)
      generalize bs.getD (nx + j) 0 = y at *
      obtain ⟨m, hm⟩ : ∃ m, nx + j = m := ⟨_, rfl⟩
      have em : (nx : Int) + (j : Int) = (m : Int) := by omega
      have hmn : (m : Int) < (bs.length : Int) := by have := HN.out; omega
      rw [hm] at hx
      clear hm
      obtain ⟨T, hT⟩ : ∃ T, Hid (S (j + 1) = T) := ⟨_, rfl⟩
      rw [hT.out] at hor
      go_upto_region 10 with fail
      go_quiet (fail)
      go_wp2_with fail
      go_roundg (gk - 1)
      case rel => exact ⟨j + 1, _, by omega, by go_num, by rw [hT.out], rfl⟩
      case measure => omega

set_option maxRecDepth 100000 in
theorem number_no (h : RdAt w r a cap bs s) (k : Nat) (h0 : s.e ≠ 0) :
    Calls Try.prog 27 #[.pointer (some ⟨r, 0, none⟩), .int .i64 k] w fun e w' => e = .returned (.int .u64 0) ∧ w' = w := by
  have k2 := h.cells.2.2.1
  have d0 : (s.e != 0) = true := by simpa using h0
  clear h h0
  go_enter Try.func27, Try.ntmps27
  go_wp2_with fail
  go_ret
  exact ⟨rfl, rfl⟩

set_option maxRecDepth 100000 in
set_option maxHeartbeats 1000000 in
theorem number_short (h : RdAt w r a cap bs s) (k : Nat) (hk : k ≤ 8) (h0 : s.e = 0) (hl : bs.length < s.nx + k) :
    Calls Try.prog 27 #[.pointer (some ⟨r, 0, none⟩), .int .i64 k] w fun e w' => e = .returned (.int .u64 0) ∧ ROut w r a cap bs { s with e := 5, at_ := bs.length } w' := by
  have k0 := h.cells.1
  have k1 := h.cells.2.1
  have k2 := h.cells.2.2.1
  rw [h0] at k2
  have hle := h.le
  have hnx := h.nx
  have d1 : (bs.length : Int) - (s.nx : Int) < (k : Int) := by omega
  have HF : Hid (∀ W : World, Below w.heap.size w W → Calls Try.prog 28 #[.pointer (some ⟨r, 0, none⟩), .int .i64 5, .int .i64 bs.length] W fun e w' => e = .returned (.tuple #[]) ∧ ROut w r a cap bs { s with e := 5, at_ := bs.length } w') := hd fun W hW =>
    (fail_any (h.below hW) 5 bs.length (by decide)).mono fun e w' ⟨he, ho⟩ => ⟨he, by
      rw [failS, if_pos ⟨h0, by decide⟩] at ho
      exact ⟨ho.1, (Mod.of_below _ hW).trans ho.2 (fun _ h => .inl h)⟩⟩
  clear h h0
  obtain ⟨fr, nx, e, at_⟩ := s
  simp only at *
  go_enter Try.func27, Try.ntmps27
  go_upto_region 3 with fail
  go_quiet (fail)
  have HF1 := HF.out (w.drewN nq) (below_draw w nq)
  have k0' : (w.drewN nq).cell? ⟨r, 0, none⟩ = some (.slice a bs.length cap) := k0
  go_wp2_with (go_at_call 28; refine HF1.mono ?_; rintro e w2 ⟨rfl, ho⟩)
  go_ret
  exact ⟨rfl, ho⟩

theorem num_any (h : RdAt w r a cap bs s) (k : Nat) (hk : 1 ≤ k ∧ k ≤ 8) :
    Calls Try.prog 27 #[.pointer (some ⟨r, 0, none⟩), .int .i64 k] w fun e w' => e = .returned (.int .u64 ((numS bs k s).1 : Nat)) ∧ ROut w r a cap bs (numS bs k s).2 w' := by
  unfold numS
  by_cases h0 : s.e = 0
  · rw [if_neg (by simp [h0])]
    by_cases hl : bs.length < s.nx + k
    · rw [if_pos hl]
      exact number_short h k hk.2 h0 hl
    · rw [if_neg hl]
      exact number_ok h k hk h0 (by omega)
  · rw [if_pos h0]
    exact (number_no h k h0).mono fun e w' ⟨he, hw⟩ => ⟨he, by subst hw; exact ROut.refl h⟩

/-- What is wrong with a number, below and above. -/
def intF (lo hi el eh : Int) (n : Nat) : Int := if (n : Int) < lo then el else if hi < (n : Int) then eh else 0
theorem numS_zero {k : Nat} (h : (numS bs k s).2.e ≠ 0) : (numS bs k s).1 = 0 := by
  unfold numS at *
  by_cases h0 : s.e ≠ 0
  · rw [if_pos h0]
  · rw [if_neg h0] at h ⊢
    by_cases h1 : bs.length < s.nx + k
    · rw [if_pos h1]
    · rw [if_neg h1] at h
      exact absurd (by simpa using h0) h
theorem numS_fr {k : Nat} (h : (numS bs k s).2.e = 0) : (numS bs k s).2.fr = s.nx := by
  unfold numS at *
  by_cases h0 : s.e ≠ 0
  · rw [if_pos h0] at h
    exact absurd h h0
  · rw [if_neg h0] at h ⊢
    by_cases h1 : bs.length < s.nx + k
    · rw [if_pos h1] at h
      simp at h
    · rw [if_neg h1]

set_option maxRecDepth 100000 in
set_option maxHeartbeats 1000000 in
theorem int_any (h : RdAt w r a cap bs s) (k : Nat) (hk : 1 ≤ k ∧ k ≤ 2) (lo hi el eh : Int) (hlh : lo ≤ hi + 1) (hel : el ≠ 0) (heh : eh ≠ 0) :
    Calls Try.prog 26 #[.pointer (some ⟨r, 0, none⟩), .int .i64 k, .int .i64 lo, .int .i64 hi, .int .i64 el, .int .i64 eh] w fun e w' => e = .returned (.int .i64 ((chkS bs k (intF lo hi el eh) s).1 : Nat)) ∧ ROut w r a cap bs (chkS bs k (intF lo hi el eh) s).2 w' := by
  have hn := num_any h k ⟨hk.1, by omega⟩
  have hl := numS_lt (s := s) h.byte k (by omega)
  have k1 := h.cells.2.1
  have hl2 : ((numS bs k s).1 : Int) < 9223372036854775808 := by omega
  unfold chkS
  simp only
  have HZ : Hid ((numS bs k s).2.e ≠ 0 → (numS bs k s).1 = 0) := hd numS_zero
  have HFR : Hid ((numS bs k s).2.e = 0 → (numS bs k s).2.fr = s.nx) := hd numS_fr
  have HE : Hid (intF lo hi el eh (numS bs k s).1 = if ((numS bs k s).1 : Int) < lo then el else if hi < ((numS bs k s).1 : Int) then eh else 0) := hd rfl
  generalize intF lo hi el eh (numS bs k s).1 = E at *
  generalize (numS bs k s).1 = v at *
  generalize (numS bs k s).2 = s1 at *
  clear h
  have ev : IntKind.i64.wrap (v : Int) = (v : Int) := by rw [IntKind.wrap_i64]; omega
  by_cases he : s1.e = 0
  · rw [HFR.out he]
    have hf : Hid (∀ W1 x, x ≠ 0 → RdAt W1 r a cap bs s1 → Calls Try.prog 28 #[.pointer (some ⟨r, 0, none⟩), .int .i64 x, .int .i64 s.nx] W1 fun e w' => e = .returned (.tuple #[]) ∧ ROut W1 r a cap bs (failS s1 x s.nx) w') := hd fun W1 x hx hR => fail_any hR x s.nx hx
    have HE0 := hd he
    clear HZ HFR he
    generalize s.nx = p at *
    by_cases c1 : (v : Int) < lo
    · obtain rfl : E = el := by rw [HE.out, if_pos c1]
      have c2 : decide (hi < (v : Int)) = false := by simp; omega
      have c2' : (v : Int) ≤ hi := by omega
      have hel' := hd hel
      clear HE hel heh hlh hl hk hl2
      go_enter Try.func26, Try.ntmps26
      go_upto_region 3 with (go_at_call 27; refine hn.mono ?_; rintro e w1 ⟨rfl, ho⟩)
      have k2 := ho.1.cells.2.2.1
      rw [HE0.out] at k2
      have hf1 := hf.out w1 _ hel'.out ho.1
      have HO := hd ho
      clear hn ho hf
      go_wp2_with (go_at_call 28; refine hf1.mono ?_; rintro e w2 ⟨rfl, ho2⟩)
      go_ret
      exact ⟨rfl, HO.out.trans ho2⟩
    · have d1 : decide ((v : Int) < lo) = false := by simp; omega
      have d1' : lo ≤ (v : Int) := by omega
      by_cases c2 : hi < (v : Int)
      · obtain rfl : E = eh := by rw [HE.out, if_neg c1, if_pos c2]
        have heh' := hd heh
        clear HE hel heh hlh hl hk hl2 c1
        go_enter Try.func26, Try.ntmps26
        go_upto_region 3 with (go_at_call 27; refine hn.mono ?_; rintro e w1 ⟨rfl, ho⟩)
        have k2 := ho.1.cells.2.2.1
        rw [HE0.out] at k2
        have hf1 := hf.out w1 _ heh'.out ho.1
        have HO := hd ho
        clear hn ho hf
        go_wp2_with (go_at_call 28; refine hf1.mono ?_; rintro e w2 ⟨rfl, ho2⟩)
        go_ret
        exact ⟨rfl, HO.out.trans ho2⟩
      · obtain rfl : E = 0 := by rw [HE.out, if_neg c1, if_neg c2]
        have d2 : decide (hi < (v : Int)) = false := by simp; omega
        have d2' : (v : Int) ≤ hi := by omega
        clear HE hel heh hlh hl hk hl2 c1 c2 hf
        go_enter Try.func26, Try.ntmps26
        go_upto_region 3 with (go_at_call 27; refine hn.mono ?_; rintro e w1 ⟨rfl, ho⟩)
        have k2 := ho.1.cells.2.2.1
        rw [HE0.out] at k2
        have HO := hd ho
        clear hn ho
        go_wp2_with fail
        go_ret
        rw [failS_ok]
        exact ⟨rfl, HO.out⟩
  · obtain rfl : v = 0 := HZ.out he
    have d0 : (s1.e != 0) = true := by simpa using he
    rw [failS_bad he]
    clear HZ HFR HE he hel heh hlh hl hk hl2
    go_enter Try.func26, Try.ntmps26
    go_upto_region 3 with (go_at_call 27; refine hn.mono ?_; rintro e w1 ⟨rfl, ho⟩)
    have k2 := ho.1.cells.2.2.1
    have HO := hd ho
    clear hn ho
    go_wp2_with fail
    go_ret
    exact ⟨rfl, HO.out⟩
end
end Go.Proofs.Ytnkanaccacephaa.Doc
