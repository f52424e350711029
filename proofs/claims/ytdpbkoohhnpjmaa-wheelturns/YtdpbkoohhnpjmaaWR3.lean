/- The document's side: first, Next. -/
import Derived.Test.YtdpbkoohhnpjmaaWR2
namespace Go.Proofs.Ytdpbkoohhnpjmaa
open Go.RowKit Go.Sort Go.Shelf Go.Maps

set_option maxRecDepth 100000 in
set_option maxHeartbeats 2000000 in
theorem first_any {w : World} {b : Nat} {a : Option Addr} {c : Nat} {L : List Th} (h : RAt w b a c L) (h0 : 0 < L.length) (hn : L.length ≤ 8796093022208) :
    Calls Try.prog 24 #[.pointer (some ⟨b, 0, none⟩)] w fun e w' => ∃ k : Nat, e = .returned (.int .i64 (k : Int)) ∧ k < L.length ∧ IsMin L (tAt L k) ∧ Below w.heap.size w w' := by
  have HH := hd h
  obtain ⟨n, hN⟩ : ∃ n, Hid (L.length = n) := ⟨_, rfl⟩
  rw [hN.out] at h0 hn
  clear h
  go_enter Try.func24, Try.ntmps24
  go_wp2_with fail
  go_loopg [3, 4] n (fun k v3 v4 wr => ∃ i q : Nat, v3 = .int .i64 (q : Int) ∧ v4 = .int .i64 (i : Int) ∧ i + k = n ∧ q < n ∧ Hid (Below w.heap.size w wr ∧ ∀ j, j < i → ¬ ltT (tAt L j) (tAt L q)))
  case atStart => exact ⟨0, 0, rfl, rfl, by omega, h0, hd ⟨Below.refl _ _, fun j hj => absurd hj (Nat.not_lt_zero _)⟩⟩
  case round =>
    obtain ⟨i, q, rfl, rfl, hik, hqn, HB⟩ := hrel
    have hW := HH.out.below HB.out.1
    have c0 := hW.c0
    rw [hN.out] at c0
    by_cases hlt : i < n
    · have hlt' : (i : Int) < (n : Int) := by omega
      have hqn' : (q : Int) < (n : Int) := by omega
      obtain ⟨g, rfl, x0, x1⟩ := hW.one i (by rw [hN.out]; exact hlt)
      obtain ⟨g', e', y0, y1⟩ := hW.one q (by rw [hN.out]; exact hqn)
      cases e'
      have HBD : Hid (∀ m, Below w.heap.size w (wr.drewN m)) := hd (fun m => below_drewN HB.out.1 m)
      have HYES : Hid (ltT (tAt L i) (tAt L q) → ∀ j, j < i + 1 → ¬ ltT (tAt L j) (tAt L i)) := hd (fun hl j hj => by
        by_cases e : j = i
        · rw [e]; exact ltT_irrefl _
        · exact fun h3 => HB.out.2 j (by omega) (ltT_trans h3 hl))
      have HNO : Hid (¬ ltT (tAt L i) (tAt L q) → ∀ j, j < i + 1 → ¬ ltT (tAt L j) (tAt L q)) := hd (fun hl j hj => by
        by_cases e : j = i
        · rw [e]; exact hl
        · exact HB.out.2 j (by omega))
      obtain ⟨t, ht⟩ : ∃ t, Hid (tAt L i = t) := ⟨_, rfl⟩
      obtain ⟨s, hs⟩ : ∃ s, Hid (tAt L q = s) := ⟨_, rfl⟩
      rw [ht.out] at x0 x1
      rw [hs.out] at y0 y1
      have HY2 : Hid (ltT t s → ∀ j, j < i + 1 → ¬ ltT (tAt L j) (tAt L i)) := hd (by rw [← ht.out, ← hs.out]; exact HYES.out)
      have HN2 : Hid (¬ ltT t s → ∀ j, j < i + 1 → ¬ ltT (tAt L j) (tAt L q)) := hd (by rw [← ht.out, ← hs.out]; exact HNO.out)
      obtain ⟨t1, t2⟩ := t
      obtain ⟨s1, s2⟩ := s
      simp only at x0 x1 y0 y1
      clear hW HYES HNO ht hs HB
      by_cases k1 : t1 < s1
      · have HR := hd (HY2.out (.inl k1))
        clear HY2 HN2
        go_wp2_with fail
        go_quiet (fail)
        go_wp2_with fail
        go_roundg (gk - 1)
        case measure => omega
        case rel => exact ⟨i + 1, i, by go_num, by go_num, by omega, by omega, hd ⟨HBD.out _, HR.out⟩⟩
      · by_cases k2 : t1 = s1
        · by_cases k3 : t2 < s2
          · have e1 : decide (t1 < s1) = false := by simpa using k1
            have e2 : (t1 == s1) = true := by simp [k2]
            have HR := hd (HY2.out (.inr ⟨k2, k3⟩))
            clear HY2 HN2 k1 k2
            go_wp2_with fail
            go_quiet (fail)
            go_wp2_with fail
            go_roundg (gk - 1)
            case measure => omega
            case rel => exact ⟨i + 1, i, by go_num, by go_num, by omega, by omega, hd ⟨HBD.out _, HR.out⟩⟩
          · have e1 : decide (t1 < s1) = false := by simpa using k1
            have e2 : (t1 == s1) = true := by simp [k2]
            have e3 : decide (t2 < s2) = false := by simpa using k3
            have HR := hd (HN2.out (fun hl => by unfold ltT at hl; simp only at hl; omega))
            clear HY2 HN2 k1 k2 k3
            go_wp2_with fail
            go_quiet (fail)
            go_wp2_with fail
            go_roundg (gk - 1)
            case measure => omega
            case rel => exact ⟨i + 1, q, by go_num, by go_num, by omega, by omega, hd ⟨HBD.out _, HR.out⟩⟩
        · have e1 : decide (t1 < s1) = false := by simpa using k1
          have e2 : (t1 == s1) = false := by simpa using k2
          have HR := hd (HN2.out (fun hl => by unfold ltT at hl; simp only at hl; omega))
          clear HY2 HN2 k1 k2
          go_wp2_with fail
          go_quiet (fail)
          go_wp2_with fail
          go_roundg (gk - 1)
          case measure => omega
          case rel => exact ⟨i + 1, q, by go_num, by go_num, by omega, by omega, hd ⟨HBD.out _, HR.out⟩⟩
    · have ein : i = n := by omega
      subst ein
      have HR : Hid (IsMin L (tAt L q)) := hd ⟨tAt_mem (by rw [hN.out]; exact hqn), fun x hx => by
        obtain ⟨j, hj, e⟩ := mem_tAt hx
        rw [← e]
        exact HB.out.2 j (by rw [← hN.out]; exact hj)⟩
      have HB1 := hd HB.out.1
      have hq2 : q < L.length := by rw [hN.out]; exact hqn
      have HQ := hd hq2
      clear hW HB hq2
      go_wp2_with fail
      go_ret
      exact ⟨q, rfl, HQ.out, HR.out, HB1.out⟩

set_option maxRecDepth 100000 in
set_option maxHeartbeats 2000000 in
theorem rnext_any {w : World} {b : Nat} {F : Nat → Prop} {L : List Th} (h : Rf w b F L) (hn : L.length ≤ 8796093022208) :
    Calls Try.prog 22 #[.pointer (some ⟨b, 0, none⟩)] w fun e w' => (∃ n is, e = .returned (.tuple #[.int .i64 n, .bool is]) ∧ NextA L n is) ∧ Below w.heap.size w w' := by
  obtain ⟨a, c, h, -, -⟩ := h
  have c0 := h.c0
  obtain ⟨n, hN⟩ : ∃ n, Hid (L.length = n) := ⟨_, rfl⟩
  rw [hN.out] at c0
  by_cases h0 : n = 0
  · subst h0
    have HE : Hid (L = []) := hd (List.eq_nil_of_length_eq_zero hN.out)
    clear h
    go_enter Try.func22, Try.ntmps22
    go_wp2
    go_ret2
    exact ⟨⟨_, _, rfl, .inl ⟨HE.out, rfl, rfl⟩⟩, below_same w⟩
  · have hpos : 0 < n := by omega
    have hne : ((n : Int) == 0) = false := by simp; omega
    have hf := first_any (h.below ((Below.refl _ w).drew)) (by rw [hN.out]; exact hpos) hn
    have HH := hd h
    have hbl := h.blt
    clear h h0
    go_enter Try.func22, Try.ntmps22
    go_upto_region 3 with fail
    go_cut [2, 3] (fun v2 v3 wy => ∃ r : Int, v2 = .int .i64 r ∧ v3 = .bool true ∧ Hid ((∃ t, IsMin L t ∧ r = t.1) ∧ Below w.heap.size w wy))
    case first =>
      go_region_with (first
          | (go_at_call 24; refine hf.mono ?_; rintro e1 w1 ⟨k, rfl, hk, hm, b1⟩
             replace b1 := Below.trans ((Below.refl _ w).drew) (by exact b1)
             have y0 : w1.cell? ⟨b, 0, none⟩ = some (.slice a n c) := (b1.cell (p := ⟨b, 0, none⟩) hbl).trans c0
             obtain ⟨g, rfl, x0, x1⟩ := (HH.out.below b1).one k hk
             rw [hN.out] at hk
             have hk' : (k : Int) < (n : Int) := by omega
             have HM := hd hm
             have HB1 := hd b1
             clear hm b1))
      all_goals go_wp2_with fail
      all_goals go_meet
      all_goals (case rel => exact ⟨_, rfl, rfl, hd ⟨⟨_, HM.out, rfl⟩, HB1.out⟩⟩)
    case rest =>
      obtain ⟨r, rfl, rfl, HE⟩ := hcut
      go_wp2_with fail
      go_ret2
      obtain ⟨⟨t, h1, h2⟩, h3⟩ := HE.out
      exact ⟨⟨_, _, rfl, .inr ⟨t, h1, h2, rfl⟩⟩, h3⟩
end Go.Proofs.Ytdpbkoohhnpjmaa
