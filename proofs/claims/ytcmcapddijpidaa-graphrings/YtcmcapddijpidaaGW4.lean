/- The ring on which a number stands, as the program tells it. -/
import Derived.Test.YtcmcapddijpidaaGW3
namespace Go.Proofs.Ytcmcapddijpidaa
open Go.RowKit Go.Maps

set_option maxRecDepth 100000 in
set_option maxHeartbeats 4000000 in
theorem around_any {w : World} {m c : Nat} {f : Fn} (hM : MapAt w m f c) (hF : FitF f) {z : Int} {k : Nat} (hT : Turn f z k) (hk : k ≤ 6000000) (hz : Fit64 z) :
    Calls Try.prog 16 #[.map (some m), .int .i64 z] w fun x w' => ToldOut w f z x w' := by
  have HM := hd hM
  have HF := hd hF
  have HT := hd hT
  have hkp := hT.1
  have HV : Hid (∀ j, Fit64 (vv f z j)) := hd (vv_fit hF hz)
  have hl1 := hM.look1 hz
  rw [hT.get hkp] at hl1
  clear hM hF hT
  go_enter Try.func16, Try.ntmps16
  go_wp2_with fail
  go_loopg [5, 6, 13, 14, 15, 16, 17, 18, 19, 20, 21] (k - 1) (fun gk v5 v6 v13 v14 v15 v16 v17 v18 v19 v20 v21 wr => wr = w ∧ ∃ j : Nat, j + gk = k ∧ 0 < j ∧ v6 = .int .i64 (vv f z j) ∧ ∃ L, v5 = .int .i64 L ∧ Hid (LeastTo f z j L))
  case atStart => exact ⟨rfl, 1, by omega, by omega, rfl, z, rfl, hd (LeastTo.one f z)⟩
  case round =>
    obtain ⟨rfl, j, hj, hj0, rfl, L, rfl, HL⟩ := hrel
    clear hl1
    obtain ⟨y, hy⟩ : ∃ y, Hid (vv f z j = y) := ⟨_, rfl⟩
    rw [hy.out]
    by_cases h0 : gk = 0
    · subst h0
      obtain rfl : j = k := by omega
      obtain rfl : z = y := by rw [← hy.out]; exact HT.out.end.symm
      have hne : (z != z) = false := by simp
      clear hy
      have HLL : Hid (LeastTo f z j L) := HL
      obtain ⟨TL, hTL⟩ : ∃ t : Turn f L j, True := by
        obtain ⟨⟨i, hi, rfl⟩, _⟩ := HL.out
        exact ⟨HT.out.move hi, trivial⟩
      have HTL := hd TL
      have HVL : Hid (∀ j, Fit64 (vv f L j)) := hd (vv_fit HF.out (by
        obtain ⟨⟨i, hi, rfl⟩, _⟩ := HL.out
        exact HV.out i))
      have hLf : Fit64 L := HVL.out 0
      clear HL TL hTL HV
      go_upto_region 7 with fail
      obtain ⟨w1, hw1⟩ : ∃ W, Hid (wr.alloc (.cells #[.int .i64 L] 3) = W) := ⟨_, rfl⟩
      obtain ⟨a1, ha1⟩ : ∃ A, Hid (some (⟨wr.heap.size, 0, none⟩ : Addr) = A) := ⟨_, rfl⟩
      have HO : Hid (Own wr w1 a1 1 (tl f L 1)) := hd (by rw [← hw1.out, ← ha1.out]; exact Own.one L)
      try rw [hw1.out]
      try simp only [ha1.out]
      have hl2 := (HM.out.below HO.out.bel).look1 hLf
      rw [HTL.out.get hkp] at hl2
      clear hw1 ha1 hne
      go_wp2_with fail
      obtain ⟨wo, rfl⟩ : ∃ W, W = wr := ⟨_, rfl⟩
      go_loopg [7, 8, 27, 28, 29, 30, 31, 32, 33, 34, 35, 36] (j - 1) (fun gk v7 v8 v27 v28 v29 v30 v31 v32 v33 v34 v35 v36 wz => ∃ i : Nat, i + gk = j ∧ 0 < i ∧ v8 = .int .i64 (vv f L i) ∧ ∃ a c, v7 = .slice a i c ∧ Hid (Own wo wz a c (tl f L i)))
      case atStart => exact ⟨1, by omega, by omega, rfl, a1, 1, rfl, HO⟩
      case round =>
        obtain ⟨i, hi, hi0, rfl, a, ca, rfl, HO2⟩ := hrel
        clear hl2 HO
        obtain ⟨y, hy⟩ : ∃ y, Hid (vv f L i = y) := ⟨_, rfl⟩
        rw [hy.out]
        by_cases h0 : gk = 0
        · subst h0
          obtain rfl : i = j := by omega
          obtain rfl : L = y := by rw [← hy.out]; exact HTL.out.end.symm
          have hne : (L != L) = false := by simp
          have HE : Hid (ToldOut wo f z (.returned (.slice a i ca)) wr) := hd (by
            obtain ⟨l1, l2⟩ := HLL.out
            exact ⟨tl f L i, ⟨i, L, HT.out, l1, l2, rfl⟩, a, ca, by rw [tl_len], HO2.out⟩)
          clear HO2 HTL HVL HLL hy HT HM HF
          go_wp2_with fail
          go_ret
          exact HE.out
        · have hlt : i < j := by omega
          have hne : (y != L) = true := by
            have := HTL.out.inj (i := i) (j := 0) hlt hkp
            have e : ¬ y = L := fun e => by
              have := this (by rw [hy.out, e]; rfl)
              omega
            simpa using e
          have hl3 := (HM.out.below HO2.out.bel).look1 (hy.out ▸ HVL.out i)
          obtain ⟨a', c', w2, hap, hO3⟩ := HO2.out.push (by rw [tl_len]; omega) y
          rw [tl_len] at hap
          have hap := hd hap
          have HE : Hid (Own wo w2 a' c' (tl f L (i + 1))) := hd (by rw [tl_succ, hy.out]; exact hO3)
          have hl4 := (HM.out.below hO3.bel).look1 (p := y) (hy.out ▸ HVL.out i)
          have hn4 : (f y).getD 0 = vv f L (i + 1) := by rw [← hy.out, HTL.out.next hlt]; rfl
          rw [hn4] at hl4
          clear HO2 HLL hy hl3 hO3 HM HT h0 hn4
          go_wp2_with (first | (at_builtin; refine wpList_append_run rfl _ _ _ rfl _ _ _ _ rfl rfl hap.out ?_; clear hap))
          go_roundg (gk - 1)
          case rel => exact ⟨i + 1, by omega, by omega, rfl, a', c', rfl, HE⟩
          case measure => omega
    · have hlt : j < k := by omega
      have hne : (y != z) = true := by
        have := HT.out.inj (i := j) (j := 0) hlt hkp
        have e : ¬ y = z := fun e => by
          have := this (by rw [hy.out, e]; rfl)
          omega
        simpa using e
      have hl4 := HM.out.look1 (p := y) (hy.out ▸ HV.out j)
      have hn4 : (f y).getD 0 = vv f z (j + 1) := by rw [← hy.out, HT.out.next hlt]; rfl
      rw [hn4] at hl4
      have HE := hd (HL.out.more hy.out)
      clear HL h0 hn4 hy
      go_wp2_with fail
      all_goals go_roundg (gk - 1)
      all_goals first | exact ⟨rfl, j + 1, by omega, by omega, rfl, _, rfl, hd (by have := HE.out; rwa [show min L y = L by omega] at this)⟩ | exact ⟨rfl, j + 1, by omega, by omega, rfl, _, rfl, hd (by have := HE.out; rwa [show min L y = y by omega] at this)⟩ | omega
end Go.Proofs.Ytcmcapddijpidaa
