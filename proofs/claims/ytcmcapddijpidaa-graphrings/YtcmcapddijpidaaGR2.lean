/- The document's sort, walked. -/
import Derived.Test.YtcmcapddijpidaaGR1
namespace Go.Proofs.Ytcmcapddijpidaa
open Go.RowKit Go.Maps

theorem rsorted_short {w : World} {a : Option Addr} {c : Nat} {l : List Int} (hR : Rd w a (iC l)) (hc : l.length ≤ c) (h2 : l.length < 2) : Calls Try.prog 11 #[.slice a l.length c] w fun x w' => SrOut w l x w' := by
  have HE : Hid (SrOut w l (.returned (.slice a l.length c)) w) := hd ⟨l, a, c, rfl, hc, by
    match l, h2 with
    | [], _ => exact List.Pairwise.nil
    | [x], _ => simp [Rises], List.Perm.refl _, hR, Below.refl _ _⟩
  obtain ⟨n, hn⟩ : ∃ n, Hid (l.length = n) := ⟨_, rfl⟩
  rw [hn.out] at HE h2 ⊢
  have h2' : decide ((n : Int) < 2) = true := by simp; omega
  clear hR
  go_enter Try.func11, Try.ntmps11
  go_wp2_with fail
  go_ret
  exact HE.out
def SrtN (N : Nat) : Prop := ∀ (w : World) (a : Option Addr) (n c : Nat) (l : List Int), l.length = n → n ≤ N → n ≤ c → n ≤ 1000000000 → c ≤ maxLen → Rd w a (iC l) → Calls Try.prog 11 #[.slice a n c] w fun x w' => SrOut w l x w'
set_option maxRecDepth 100000 in
set_option maxHeartbeats 4000000 in
theorem rsorted_any (N : Nat) : SrtN N := by
  induction N with
  | zero =>
    intro w a n c l hn hN hc h9 hcm hR
    subst hn
    exact rsorted_short hR hc (by omega)
  | succ N ih =>
    intro w a n c l hn hN hc h9 hcm hR
    by_cases h2 : n < 2
    · subst hn
      exact rsorted_short hR hc h2
    have h2' : decide ((n : Int) < 2) = false := by simp; omega
    obtain ⟨g, o, rfl⟩ : ∃ g o, a = some ⟨g, o, none⟩ := by
      obtain ⟨g, o, e, _⟩ := hR 0 (.int .i64 (l.getD 0 0)) (iC_at l 0 (by omega) 0)
      exact ⟨g, o, e⟩
    obtain ⟨h, hh⟩ : ∃ h, Hid (n / 2 = h) := ⟨_, rfl⟩
    have hb1 : h ≤ n := by rw [← hh.out]; omega
    have hb2 : h ≤ N := by rw [← hh.out]; omega
    have hb3 : n - h ≤ N := by rw [← hh.out]; omega
    have hq : (n : Int) / 2 = (h : Int) := by rw [← hh.out]; omega
    have hqt : Int.tdiv (n : Int) 2 = (h : Int) := by rw [Int.tdiv_eq_ediv_of_nonneg (by omega)]; exact hq
    have HR := hd hR
    have HIH := hd ih
    have HN := hd hn
    obtain ⟨a1, c1, w1, hA1, o1⟩ := copy_app (hR.takeI h) (by rw [List.length_take, hn]; exact Nat.min_eq_left hb1 : (l.take h).length = h) (c := c) (by omega)
    have hA1 := hd hA1
    have HO1 := hd o1
    clear hR ih o1 hn
    go_enter Try.func11, Try.ntmps11
    have hs1 := HIH.out w1 a1 h c1 (l.take h) (by rw [List.length_take, HN.out]; exact Nat.min_eq_left hb1) hb2 (by have := HO1.out.row.capLe; rw [List.length_take, HN.out] at this; omega) (by omega) HO1.out.row.2.2.1 HO1.out.row.rd
    go_upto_region 4 with (first
      | (at_builtin; refine wpList_append_run rfl _ _ _ rfl _ _ _ _ rfl rfl hA1.out ?_; clear hA1)
      | (go_at_call 11; refine hs1.mono ?_; rintro x1 w2 ⟨lA, aA, cA, rfl, y1, y2, y3, y4, y5⟩))
    have HY := hd (And.intro y2 (And.intro y3 (And.intro y4 y5)))
    obtain ⟨wz, hwz⟩ : ∃ W, W = w2 := ⟨_, rfl⟩
    have HB2 : Hid (Below w.heap.size w w2) := hd (HO1.out.bel.trans (y5.mono HO1.out.bel.size))
    obtain ⟨a3, c3, w3, hA3, o3⟩ := copy_app ((HR.out.below HB2.out).dropI h) (by rw [List.length_drop, HN.out] : (l.drop h).length = n - h) (c := c - h) (by omega)
    have hA3 := hd hA3
    have HO3 := hd o3
    have hs3 := HIH.out w3 a3 (n - h) c3 (l.drop h) (by rw [List.length_drop, HN.out]) hb3 (by have := HO3.out.row.capLe; rw [List.length_drop, HN.out] at this; omega) (by omega) HO3.out.row.2.2.1 HO3.out.row.rd
    clear hs1 y2 y3 y4 y5 o3 hwz wz
    go_upto_region 5 with (first
      | (at_builtin; refine wpList_append_run rfl _ _ _ rfl _ _ _ _ rfl rfl hA3.out ?_; clear hA3)
      | (go_at_call 11; refine hs3.mono ?_; rintro x3 w4 ⟨lB, aB, cB, rfl, y6, y7, y8, y9, y10⟩))
    have HB4 : Hid (Below w2.heap.size w2 w4) := hd (HO3.out.bel.trans (y10.mono HO3.out.bel.size))
    have HM : Hid (Mg l [] lA lB) := hd (Mg.start HY.out.1 y7 (by
      have h1 := HY.out.2.1.append y8
      rwa [List.take_append_drop] at h1))
    have HRA : Hid (Rd w4 aA (iC lA)) := hd (HY.out.2.2.1.below HB4.out)
    have HRB : Hid (Rd w4 aB (iC lB)) := hd y9
    have HB5 : Hid (Below w.heap.size w w4) := hd (HB2.out.trans (HB4.out.mono HB2.out.size))
    obtain ⟨nA, hnA⟩ : ∃ nA, Hid (lA.length = nA) := ⟨_, rfl⟩
    obtain ⟨nB, hnB⟩ : ∃ nB, Hid (lB.length = nB) := ⟨_, rfl⟩
    rw [hnA.out] at y1 ⊢
    rw [hnB.out] at y6 ⊢
    clear hs3 y7 y8 y9 y10 HY HB4 HB2 HO3 HO1 HR HIH
    go_upto_region 6 with fail
    obtain ⟨a5, ha5⟩ : ∃ A, Hid (some (⟨w4.heap.size, 0, none⟩ : Addr) = A) := ⟨_, rfl⟩
    obtain ⟨w5, hw5⟩ : ∃ W, Hid (w4.alloc (.cells #[] 3) = W) := ⟨_, rfl⟩
    have HO5 : Hid (Own w4 w5 a5 0 []) := hd (by rw [← hw5.out, ← ha5.out]; exact Own.empty)
    rw [hw5.out]
    try simp only [ha5.out]
    clear hw5 ha5 hq hqt
    have HW : Hid (Rd w4 aA (iC lA) ∧ Rd w4 aB (iC lB) ∧ Own w4 w5 a5 0 [] ∧ Mg l [] lA lB) := hd ⟨HRA.out, HRB.out, HO5.out, HM.out⟩
    have hnl : nA + nB = n := by have := HM.out.perm.length_eq; have h1 := hnA.out; have h2 := hnB.out; have h3 := HN.out; simp at this; omega
    clear HRA HRB HO5 HM
    go_wp2_with fail
    go_loopg [3, 4, 5, 27, 28, 29, 30, 31, 32, 33, 34, 35, 36, 37, 38, 39, 40, 41, 42, 43, 44, 45, 46, 47, 48, 49, 50, 51, 52, 53, 54, 55, 56, 57, 58, 59, 60, 61, 62, 63, 64, 65, 66, 67] (nA + nB) (fun k v3 v4 v5 v27 v28 v29 v30 v31 v32 v33 v34 v35 v36 v37 v38 v39 v40 v41 v42 v43 v44 v45 v46 v47 v48 v49 v50 v51 v52 v53 v54 v55 v56 v57 v58 v59 v60 v61 v62 v63 v64 v65 v66 v67 wr => ∃ (la lb lo : List Int) (aA aB aO : Option Addr) (nA nB no cA cB cO : Nat), v3 = .slice aA nA cA ∧ v4 = .slice aB nB cB ∧ v5 = .slice aO no cO ∧ nA + nB = k ∧ nA ≤ cA ∧ nB ≤ cB ∧ no + nA + nB = n ∧ Hid (la.length = nA) ∧ Hid (lb.length = nB) ∧ Hid (lo.length = no) ∧ Hid (Rd w4 aA (iC la) ∧ Rd w4 aB (iC lb) ∧ Own w4 wr aO cO lo ∧ Mg l lo la lb))
    case atStart => exact ⟨lA, lB, [], aA, aB, a5, nA, nB, 0, cA, cB, 0, rfl, rfl, rfl, rfl, y1, y6, by omega, hnA, hnB, hd rfl, HW⟩
    case round =>
      obtain ⟨la, lb, lo, aA, aB, aO, nA, nB, no, cA, cB, cO, rfl, rfl, rfl, hk, hcA, hcB, hno3, HLA, HLB, hno, HX⟩ := hrel
      clear HW hnA hnB hnl
      cases la with
      | nil =>
        obtain rfl : nA = 0 := HLA.out.symm
        cases lb with
        | nil =>
          obtain rfl : nB = 0 := HLB.out.symm
          have HE : Hid (SrOut w l (.returned (.slice aO no cO)) wr) := hd (by
            obtain ⟨e1, e2⟩ := HX.out.2.2.2.end
            exact ⟨lo, aO, cO, by rw [hno.out], HX.out.2.2.1.row.capLe, e1, e2, HX.out.2.2.1.row.rd, HB5.out.trans (HX.out.2.2.1.bel.mono HB5.out.size)⟩)
          clear HX HLA HLB hno
          go_wp2_with fail
          go_ret
          exact HE.out
        | cons y rb =>
          obtain ⟨gB, oB, rfl, cy⟩ := (HX.out.2.1.below HX.out.2.2.1.bel).head
          obtain ⟨a', c', w6, hap, hO6⟩ := (HX.out.2.2.1.below ((Below.refl _ wr).drew)).push (by have h1 := hno.out; have h2 := HLA.out; have h3 := HLB.out; simp at h2 h3; omega) y
          rw [hno.out] at hap
          have hap := hd hap
          have HE : Hid (∀ o' : Nat, (o' = oB + 1 ∨ rb = []) → Rd w4 aA (iC []) ∧ Rd w4 (some ⟨gB, o', none⟩) (iC rb) ∧ Own w4 w6 a' c' (lo ++ [y]) ∧ Mg l (lo ++ [y]) [] rb) := hd (fun o' ho => ⟨HX.out.1, by rcases ho with rfl | rfl; exact HX.out.2.1.rest; exact Rd.zero, hO6, HX.out.2.2.2.right (fun z hz => by cases hz)⟩)
          have HNO : Hid ((lo ++ [y]).length = no + 1) := hd (by rw [List.length_append, hno.out]; rfl)
          have hB0 : 0 < nB := by rw [← HLB.out]; exact Nat.succ_pos _
          have hB1 : ((nB : Int) == 0) = false := by simpa using (show ¬ (nB : Int) = 0 by omega)
          have hB2 : decide (0 < nB) = true := by simpa using hB0
          have HLB2 : Hid (rb.length = nB - 1) := hd (by have := HLB.out; simp at this; omega)
          clear HX hO6
          go_upto_region 7 with fail
          go_region
          all_goals go_wp2_with (first | (at_builtin; refine wpList_append_run rfl _ _ _ rfl _ _ _ _ rfl rfl hap.out ?_; clear hap))
          all_goals go_roundg (gk - 1)
          all_goals first | exact ⟨[], rb, lo ++ [y], _, _, _, _, _, _, _, _, _, rfl, rfl, rfl, by omega, by omega, by omega, by omega, HLA, HLB2, HNO, hd (HE.out _ (.inl rfl))⟩ | exact ⟨[], rb, lo ++ [y], _, _, _, _, _, _, _, _, _, rfl, rfl, rfl, by omega, by omega, by omega, by omega, HLA, HLB2, HNO, hd (HE.out _ (.inr (List.eq_nil_of_length_eq_zero (by have := HLB2.out; omega))))⟩ | omega
      | cons x ra =>
        cases lb with
        | nil =>
          obtain rfl : nB = 0 := HLB.out.symm
          obtain ⟨gA, oA, rfl, cx⟩ := (HX.out.1.below HX.out.2.2.1.bel).head
          obtain ⟨a', c', w6, hap, hO6⟩ := (HX.out.2.2.1.below ((Below.refl _ wr).drew)).push (by have h1 := hno.out; have h2 := HLA.out; have h3 := HLB.out; simp at h2 h3; omega) x
          rw [hno.out] at hap
          have hap := hd hap
          have HE : Hid (∀ o' : Nat, (o' = oA + 1 ∨ ra = []) → Rd w4 (some ⟨gA, o', none⟩) (iC ra) ∧ Rd w4 aB (iC []) ∧ Own w4 w6 a' c' (lo ++ [x]) ∧ Mg l (lo ++ [x]) ra []) := hd (fun o' ho => ⟨by rcases ho with rfl | rfl; exact HX.out.1.rest; exact Rd.zero, HX.out.2.1, hO6, HX.out.2.2.2.left (fun z hz => by cases hz)⟩)
          have HNO : Hid ((lo ++ [x]).length = no + 1) := hd (by rw [List.length_append, hno.out]; rfl)
          have hA0 : 0 < nA := by rw [← HLA.out]; exact Nat.succ_pos _
          have hA1 : decide (0 < nA) = true := by simpa using hA0
          have hA2 : decide ((0 : Int) < (nA : Int)) = true := by simpa using hA0
          have HLA2 : Hid (ra.length = nA - 1) := hd (by have := HLA.out; simp at this; omega)
          clear HX hO6
          go_upto_region 7 with fail
          go_region
          all_goals go_wp2_with (first | (at_builtin; refine wpList_append_run rfl _ _ _ rfl _ _ _ _ rfl rfl hap.out ?_; clear hap))
          all_goals go_roundg (gk - 1)
          all_goals first | exact ⟨ra, [], lo ++ [x], _, _, _, _, _, _, _, _, _, rfl, rfl, rfl, by omega, by omega, by omega, by omega, HLA2, HLB, HNO, hd (HE.out _ (.inl rfl))⟩ | exact ⟨ra, [], lo ++ [x], _, _, _, _, _, _, _, _, _, rfl, rfl, rfl, by omega, by omega, by omega, by omega, HLA2, HLB, HNO, hd (HE.out _ (.inr (List.eq_nil_of_length_eq_zero (by have := HLA2.out; omega))))⟩ | omega
        | cons y rb =>
          by_cases hxy : x < y
          · obtain ⟨gA, oA, rfl, cx⟩ := (HX.out.1.below HX.out.2.2.1.bel).head
            obtain ⟨a', c', w6, hap, hO6⟩ := (HX.out.2.2.1.below ((Below.refl _ wr).drew)).push (by have h1 := hno.out; have h2 := HLA.out; have h3 := HLB.out; simp at h2 h3; omega) x
            rw [hno.out] at hap
            have hap := hd hap
            have HE : Hid (∀ o' : Nat, (o' = oA + 1 ∨ ra = []) → Rd w4 (some ⟨gA, o', none⟩) (iC ra) ∧ Rd w4 aB (iC (y :: rb)) ∧ Own w4 w6 a' c' (lo ++ [x]) ∧ Mg l (lo ++ [x]) ra (y :: rb)) := hd (fun o' ho => ⟨by rcases ho with rfl | rfl; exact HX.out.1.rest; exact Rd.zero, HX.out.2.1, hO6, HX.out.2.2.2.left (HX.out.2.2.2.le_b (by omega))⟩)
            have HNO : Hid ((lo ++ [x]).length = no + 1) := hd (by rw [List.length_append, hno.out]; rfl)
            have hA0 : 0 < nA := by rw [← HLA.out]; exact Nat.succ_pos _
            have hA1 : decide (0 < nA) = true := by simpa using hA0
            have hA2 : decide ((0 : Int) < (nA : Int)) = true := by simpa using hA0
            have HLA2 : Hid (ra.length = nA - 1) := hd (by have := HLA.out; simp at this; omega)
            obtain ⟨gB, oB, rfl, cy⟩ := (HX.out.2.1.below HX.out.2.2.1.bel).head
            have hB0 : 0 < nB := by rw [← HLB.out]; exact Nat.succ_pos _
            have hB1 : ((nB : Int) == 0) = false := by simpa using (show ¬ (nB : Int) = 0 by omega)
            have hB2 : decide (0 < nB) = true := by simpa using hB0
            have hxy' : decide (x < y) = true := by simpa using hxy
            clear HX hO6 hxy
            go_upto_region 7 with fail
            go_region
            all_goals go_wp2_with (first | (at_builtin; refine wpList_append_run rfl _ _ _ rfl _ _ _ _ rfl rfl hap.out ?_; clear hap))
            all_goals go_roundg (gk - 1)
            all_goals first | exact ⟨ra, y :: rb, lo ++ [x], _, _, _, _, _, _, _, _, _, rfl, rfl, rfl, by omega, by omega, by omega, by omega, HLA2, HLB, HNO, hd (HE.out _ (.inl rfl))⟩ | exact ⟨ra, y :: rb, lo ++ [x], _, _, _, _, _, _, _, _, _, rfl, rfl, rfl, by omega, by omega, by omega, by omega, HLA2, HLB, HNO, hd (HE.out _ (.inr (List.eq_nil_of_length_eq_zero (by have := HLA2.out; omega))))⟩ | omega
          · obtain ⟨gB, oB, rfl, cy⟩ := (HX.out.2.1.below HX.out.2.2.1.bel).head
            obtain ⟨a', c', w6, hap, hO6⟩ := (HX.out.2.2.1.below ((Below.refl _ wr).drew)).push (by have h1 := hno.out; have h2 := HLA.out; have h3 := HLB.out; simp at h2 h3; omega) y
            rw [hno.out] at hap
            have hap := hd hap
            have HE : Hid (∀ o' : Nat, (o' = oB + 1 ∨ rb = []) → Rd w4 aA (iC (x :: ra)) ∧ Rd w4 (some ⟨gB, o', none⟩) (iC rb) ∧ Own w4 w6 a' c' (lo ++ [y]) ∧ Mg l (lo ++ [y]) (x :: ra) rb) := hd (fun o' ho => ⟨HX.out.1, by rcases ho with rfl | rfl; exact HX.out.2.1.rest; exact Rd.zero, hO6, HX.out.2.2.2.right (HX.out.2.2.2.le_a (by omega))⟩)
            have HNO : Hid ((lo ++ [y]).length = no + 1) := hd (by rw [List.length_append, hno.out]; rfl)
            have hB0 : 0 < nB := by rw [← HLB.out]; exact Nat.succ_pos _
            have hB1 : ((nB : Int) == 0) = false := by simpa using (show ¬ (nB : Int) = 0 by omega)
            have hB2 : decide (0 < nB) = true := by simpa using hB0
            have HLB2 : Hid (rb.length = nB - 1) := hd (by have := HLB.out; simp at this; omega)
            obtain ⟨gA, oA, rfl, cx⟩ := (HX.out.1.below HX.out.2.2.1.bel).head
            have hA0 : 0 < nA := by rw [← HLA.out]; exact Nat.succ_pos _
            have hA1 : decide (0 < nA) = true := by simpa using hA0
            have hA2 : decide ((0 : Int) < (nA : Int)) = true := by simpa using hA0
            have hxy' : decide (x < y) = false := by simpa using hxy
            clear HX hO6 hxy
            go_upto_region 7 with fail
            go_region
            all_goals go_wp2_with (first | (at_builtin; refine wpList_append_run rfl _ _ _ rfl _ _ _ _ rfl rfl hap.out ?_; clear hap))
            all_goals go_roundg (gk - 1)
            all_goals first | exact ⟨x :: ra, rb, lo ++ [y], _, _, _, _, _, _, _, _, _, rfl, rfl, rfl, by omega, by omega, by omega, by omega, HLA, HLB2, HNO, hd (HE.out _ (.inl rfl))⟩ | exact ⟨x :: ra, rb, lo ++ [y], _, _, _, _, _, _, _, _, _, rfl, rfl, rfl, by omega, by omega, by omega, by omega, HLA, HLB2, HNO, hd (HE.out _ (.inr (List.eq_nil_of_length_eq_zero (by have := HLB2.out; omega))))⟩ | omega
end Go.Proofs.Ytcmcapddijpidaa
