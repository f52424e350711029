/- played; LocksTurns. -/
import Derived.Test.YtdihbbpndijdoaaKS4
import Derived.Test.YtdihbbpndijdoaaKR6
import Derived.Test.YtdihbbpndijdoaaKOp
namespace Go.Proofs.Ytdihbbpndijdoaa
open Go.RowKit Go.Maps

theorem step_any {w wr : World} {b1 b2 : Nat} {os : List Int} {qs : Qs} (h : Two w wr b1 b2 os qs) (ht : total qs < 6000000000000) (x : Op3) (hp : Fit64 x.2.2) :
    Calls Try.prog 23 #[.pointer (some ⟨b1, 0, none⟩), .pointer (some ⟨b2, 0, none⟩), .agg #[.int .i64 x.1, .int .i64 x.2.1, .int .i64 x.2.2]] wr fun e w' => e = .returned (.bool true) ∧ StepOut w b1 b2 qs w' := by
  obtain ⟨kd, lock, p⟩ := x
  simp only at hp ⊢
  by_cases k1 : kd = 1
  · subst k1; exact step_take h ht lock hp
  by_cases k2 : kd = 2
  · subst k2; exact step_give h ht lock p
  by_cases k3 : kd = 3
  · subst k3; exact step_end h ht lock hp
  by_cases k4 : kd = 4
  · subst k4; exact step_holds h lock p
  exact step_waits h ht k1 k2 k3 k4 lock hp
theorem Two.stands {w wr : World} {b1 b2 : Nat} {os : List Int} {qs : Qs} (h : Two w wr b1 b2 os qs) (ht : total qs ≤ 6000000000000) :
    Calls Try.prog 22 #[.pointer (some ⟨b1, 0, none⟩), .pointer (some ⟨b2, 0, none⟩)] wr fun e w' => e = .returned (.bool true) ∧ Two w w' b1 b2 os qs := by
  have h' := h
  obtain ⟨F1, F2, h1, h2, -⟩ := h
  refine (stands_any h1 h2 ht).mono ?_
  rintro e w' ⟨rfl, hb⟩
  exact ⟨rfl, h'.below hb⟩

set_option maxRecDepth 100000 in
set_option maxHeartbeats 2000000 in
theorem played_any {w wr : World} {b1 b2 : Nat} {os : List Int} {qs : Qs} (h : Two w wr b1 b2 os qs) {a : Option Addr} {n c : Nat} {sc : List Op3} (hR : Rd w a (opC sc)) (hN : Hid (sc.length = n)) (hf : ∀ x ∈ sc, Fit64 x.2.2) (ht : total qs + n < 6000000000000) :
    Calls Try.prog 10 #[.pointer (some ⟨b1, 0, none⟩), .pointer (some ⟨b2, 0, none⟩), .slice a n c] wr fun e w' => e = .returned (.bool true) ∧ Below w.heap.size w w' := by
  have hs := h.stands (by omega)
  have HR := hd hR
  have HF := hd hf
  clear h hR hf
  go_enter Try.func10, Try.ntmps10
  go_wp2_with (first | (go_at_call 22; refine hs.mono ?_; rintro e1 w1 ⟨rfl, hT1⟩))
  have HT1 := hd hT1
  clear hs hT1
  go_loopg [7, 12, 13, 14, 15, 16, 17, 18, 19, 20, 21, 22, 23, 24, 25, 26, 27, 28, 29, 30, 31] n (fun k v7 v12 v13 v14 v15 v16 v17 v18 v19 v20 v21 v22 v23 v24 v25 v26 v27 v28 v29 v30 v31 wr => ∃ i : Nat, i + k = n ∧ v7 = .int .i64 (i : Int) ∧ Hid (∃ os' qs', Two w wr b1 b2 os' qs' ∧ total qs' ≤ total qs + i))
  case atStart => exact ⟨0, by omega, by go_num, hd ⟨os, qs, HT1.out, Nat.le_refl _⟩⟩
  case round =>
    obtain ⟨i, hik, rfl, HX⟩ := hrel
    clear HT1
    obtain ⟨os1, qs1, hT, htt⟩ := HX.out
    by_cases h0 : gk = 0
    · subst h0
      have hi : i = n := by omega
      subst hi
      have HE := hd hT.bel
      clear HX hT htt hik HR HF
      go_wp2_with fail
      go_ret
      exact ⟨rfl, HE.out⟩
    · have hlt : i < n := by omega
      obtain ⟨g, o, rfl, x0, x1, x2⟩ := rd_op (HR.out.below hT.bel) i (by rw [hN.out]; exact hlt)
      have hst := step_any hT (by omega) (opAt sc i) (HF.out _ (opAt_mem (by rw [hN.out]; exact hlt)))
      obtain ⟨⟨kd, lk, pp⟩, hop⟩ : ∃ y, Hid (opAt sc i = y) := ⟨_, rfl⟩
      rw [hop.out] at x0 x1 x2 hst
      simp only at x0 x1 x2 hst
      have HTT := hd htt
      clear HX hT htt HR HF h0
      go_wp2_with (first
        | (go_at_call 23; refine hst.mono ?_; rintro e2 w2 ⟨rfl, os2, qs2, hT2, ht2⟩
           have hs2 := hT2.stands (by have := HTT.out; omega)
           have HT2 := hd ht2
           clear hT2 ht2)
        | (go_at_call 22; refine hs2.mono ?_; rintro e3 w3 ⟨rfl, hT3⟩))
      go_roundg (gk - 1)
      case rel => exact ⟨i + 1, by omega, by go_num, hd ⟨os2, qs2, hT3, by have := HTT.out; have := HT2.out; omega⟩⟩
      case measure => omega

/-- Both were made. -/
theorem Two.new {w w1 w2 : World} {n : Nat} {b1 b2 : Nat} {F1 F2 : Nat → Prop} (hb1 : Below w.heap.size w w1) (h1 : Lk w1 b1 F1 (List.replicate n (-1)) (List.replicate n [])) (hF1 : ∀ k, F1 k → w.heap.size ≤ k) (hb2 : Below w1.heap.size w1 w2) (h2 : Rk w2 b2 F2 (List.replicate n (-1)) (List.replicate n [])) (hF2 : ∀ k, F2 k → w1.heap.size ≤ k) : Two w w2 b1 b2 (List.replicate n (-1)) (List.replicate n []) :=
  ⟨F1, F2, h1.below hb2, h2, fun k hk1 hk2 => by have := h1.lt k hk1; have := hF2 k hk2; omega, fun k hk => by
    rcases hk with hk | hk
    · exact hF1 k hk
    · exact Nat.le_trans hb1.size (hF2 k hk), hb1.trans (hb2.mono hb1.size)⟩
theorem RNewOut.ex {w w' : World} {n : Nat} {e : Ending} (h : RNewOut w n e w') : ∃ b, e = .returned (.tuple #[.pointer (some ⟨b, 0, none⟩), .int .i64 0]) ∧ ∃ F, Below w.heap.size w w' ∧ Rk w' b F (List.replicate n (-1)) (List.replicate n []) ∧ ∀ k, F k → w.heap.size ≤ k := by
  obtain ⟨h1, b, F, h2, h3, h4⟩ := h
  exact ⟨b, h2, F, h1, h3, h4⟩
theorem NewOut.ex2 {w w' : World} {n : Nat} {e : Ending} (h : NewOut w n e w') : ∃ b, e = .returned (.tuple #[.pointer (some ⟨b, 0, none⟩), .int .i64 0]) ∧ ∃ F, Below w.heap.size w w' ∧ Lk w' b F (List.replicate n (-1)) (List.replicate n []) ∧ ∀ k, F k → w.heap.size ≤ k := by
  obtain ⟨h1, b, F, h2, h3, h4⟩ := h
  exact ⟨b, h2, F, h1, h3, h4⟩

set_option maxRecDepth 100000 in
set_option maxHeartbeats 2000000 in
theorem locksTurns_walk {w : World} {n : Int} {a : Option Addr} {c : Nat} {sc : List Op3} (hR : Rd w a (opC sc)) (hlen : sc.length < 5900000000000) (hf : ∀ x ∈ sc, Fit64 x.2.2) :
    Calls Try.prog 4 #[.int .i64 n, .slice a sc.length c] w fun e w' => e = .returned (.bool true) ∧ Below w.heap.size w w' := by
  by_cases hn : n < 0 ∨ 8 < n
  · have hn1 := new_bad (w := w) hn
    have hn2 := rnew_bad (w := w) hn
    have hfx := fixed_any (w := w)
    generalize sc.length = ln at *
    clear hR hf hn
    go_enter Try.func4, Try.ntmps4
    go_wp2_with (first
      | (go_at_call 8; refine hn1.mono ?_; rintro e1 w1 ⟨rfl, rfl⟩)
      | (go_at_call 9; refine hn2.mono ?_; rintro e2 w2 ⟨rfl, rfl⟩)
      | (go_at_call 7; refine hfx.mono ?_; rintro e3 w3 ⟨rfl, b3⟩))
    go_ret
    exact ⟨rfl, b3⟩
  · obtain ⟨m, rfl⟩ : ∃ m : Nat, n = (m : Int) := ⟨n.toNat, by omega⟩
    have hm : m ≤ 8 := by omega
    have hn1 := new_any (w := w) hm
    have HN2 : Hid (∀ W : World, Calls Try.prog 9 #[.int .i64 (m : Int)] W (RNewOut W m)) := hd (fun W => rnew_any hm)
    obtain ⟨ln, hLN⟩ : ∃ ln, Hid (sc.length = ln) := ⟨_, rfl⟩
    rw [hLN.out] at hlen ⊢
    have HR := hd hR
    have HF := hd hf
    clear hR hf hn
    go_enter Try.func4, Try.ntmps4
    go_upto_region 2 with (first
      | (go_at_call 8; refine hn1.mono ?_; rintro e1 w1 ho1
         obtain ⟨b1, rfl, hx1⟩ := ho1.ex2
         clear ho1))
    have hn2 := HN2.out w1
    clear hn1 HN2
    go_upto_region 3 with (first
      | (go_at_call 9; refine hn2.mono ?_; rintro e2 w2 ho2
         obtain ⟨b2, rfl, hx2⟩ := ho2.ex
         clear ho2))
    obtain ⟨F1, p1, p2, p3⟩ := hx1
    obtain ⟨F2, q1, q2, q3⟩ := hx2
    have hT := Two.new p1 p2 p3 q1 q2 q3
    have hpl := played_any (c := c) hT HR.out hLN HF.out (by rw [total_nils]; omega)
    have HFX : Hid (∀ W, Below w.heap.size w W → Calls Try.prog 7 #[] W fun e w' => e = .returned (.bool true) ∧ Below w.heap.size w w') := hd (fun W hb => by
      refine (fixed_any (w := W)).mono ?_
      rintro e w' ⟨rfl, hb2⟩
      exact ⟨rfl, hb.trans (hb2.mono hb.size)⟩)
    clear hn2 p1 p2 p3 q1 q2 q3 hT HR HF
    go_wp2_with (first
      | (go_at_call 10; refine hpl.mono ?_; rintro e3 w3 ⟨rfl, b3⟩
         have hfx := HFX.out w3 b3)
      | (go_at_call 7; refine hfx.mono ?_; rintro e4 w4 ⟨rfl, b4⟩))
    go_ret
    exact ⟨rfl, b4⟩
end Go.Proofs.Ytdihbbpndijdoaa
