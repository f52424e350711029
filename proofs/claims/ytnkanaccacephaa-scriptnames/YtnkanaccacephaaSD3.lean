/- The document's reader: the mark. -/
import Derived.Test.YtnkanaccacephaaSD2
namespace Go.Proofs.Ytnkanaccacephaa.Doc
open Go.RowKit

theorem rep_bind {α β : Type} (f : List β → Par β) (m : Nat) (acc : List β) (g : List β → Par α) : bind_ (repP f (m + 1) acc) g = bind_ (f acc) (fun a => bind_ (repP f m (acc ++ [a])) g) := by
  rw [repP, bind_assoc]

section
variable {w : World} {r : Nat} {a : Option Addr} {cap : Nat} {bs : List Nat} {s : St}
set_option maxRecDepth 100000 in
set_option maxHeartbeats 4000000 in
theorem mark_any (h : RdAt w r a cap bs s) {α : Type} (whole : Res α) (k : List Nat → Par α) (hs : Stage whole s (bind_ (repP (fun acc => numP 1 (hdF acc)) 5 []) k bs s.nx)) :
    Calls Try.prog 25 #[.pointer (some ⟨r, 0, none⟩), .string ⟨#[70, 66, 83, 67, 1]⟩] w fun e w' => e = .returned (.tuple #[]) ∧ ∃ s' acc, ROut w r a cap bs s' w' ∧ Stage whole s' (k acc bs s'.nx) := by
  have HS : Hid (∃ s' acc, acc.length = 0 ∧ Stage whole s' (bind_ (repP (fun acc => numP 1 (hdF acc)) 5 acc) k bs s'.nx) ∧ ROut w r a cap bs s' w) := hd ⟨s, [], rfl, hs, ROut.refl h⟩
  clear h hs
  go_enter Try.func25, Try.ntmps25
  go_wp2_with fail
  go_loopg [4, 5, 6, 7, 8, 9, 10, 11, 12, 13, 14, 15, 16, 17, 18, 19, 20, 21, 22, 23, 24, 25, 26, 27, 28, 29, 30, 31, 32, 33, 34] 5 (fun g v4 v5 v6 v7 v8 v9 v10 v11 v12 v13 v14 v15 v16 v17 v18 v19 v20 v21 v22 v23 v24 v25 v26 v27 v28 v29 v30 v31 v32 v33 v34 wr => ∃ i : Nat, i + g = 5 ∧ v4 = .int .i64 (i : Int) ∧ Hid (∃ s' acc, acc.length = i ∧ Stage whole s' (bind_ (repP (fun acc => numP 1 (hdF acc)) g acc) k bs s'.nx) ∧ ROut w r a cap bs s' wr))
  case atStart => exact ⟨0, by omega, by go_num, HS⟩
  case round =>
    obtain ⟨i, hi, rfl, HW⟩ := hrel
    clear HS
    by_cases h0 : gk = 0
    · subst h0
      obtain rfl : i = 5 := by omega
      go_wp2_with fail
      refine bodyPost_end (results_none rfl _ _ _) rfl ?_
      obtain ⟨s', acc, -, h3, h4⟩ := HW.out
      exact ⟨rfl, s', h4, acc, h3⟩
    · obtain ⟨g, rfl⟩ : ∃ g, gk = g + 1 := ⟨gk - 1, by omega⟩
      obtain ⟨s', acc, e1, e3, e4⟩ := HW.out
      clear HW
      rw [rep_bind] at e3
      have hn := num_any e4.1 1 ⟨by omega, by omega⟩
      have k1 := e4.1.cells.2.1
      have e5 := Stage.chk e3
      have HN : Hid (∀ (W1 W2 : World), ROut wr r a cap bs (numS bs 1 s').2 W1 → ROut W1 r a cap bs (failS (numS bs 1 s').2 (hdF acc (numS bs 1 s').1) s'.nx) W2 → ∃ s'' acc', acc'.length = i + 1 ∧ Stage whole s'' (bind_ (repP (fun acc => numP 1 (hdF acc)) g acc') k bs s''.nx) ∧ ROut w r a cap bs s'' W2) := hd (by
        intro W1 W2 o1 o2
        have hsame : failS (numS bs 1 s').2 (hdF acc (numS bs 1 s').1) s'.nx = (chkS bs 1 (hdF acc) s').2 := by
          unfold chkS
          by_cases hz : (numS bs 1 s').2.e = 0
          · rw [numS_fr hz]
          · rw [failS_bad hz, failS_bad hz]
        rw [hsame] at o2
        exact ⟨_, acc ++ [(chkS bs 1 (hdF acc) s').1], by simp [e1], e5, (e4.trans o1).trans o2⟩)
      clear e5 e3
      have HE : Hid (hdF acc (numS bs 1 s').1 = if (numS bs 1 s').1 = hdB.getD i 0 then 0 else 4) := hd (by unfold hdF; rw [e1])
      have HF : Hid (∀ (W1 : World), ROut wr r a cap bs (numS bs 1 s').2 W1 → Calls Try.prog 28 #[.pointer (some ⟨r, 0, none⟩), .int .i64 4, .int .i64 s'.nx] W1 fun e w' => e = .returned (.tuple #[]) ∧ ROut W1 r a cap bs (failS (numS bs 1 s').2 4 s'.nx) w') := hd fun W1 o1 => fail_any o1.1 4 s'.nx (by decide)
      clear e1 e4 h0
      generalize hdF acc (numS bs 1 s').1 = E at *
      generalize (numS bs 1 s').1 = v at *
      generalize (numS bs 1 s').2 = s1 at *
      generalize s'.nx = p at *
      have hc : i = 0 ∨ i = 1 ∨ i = 2 ∨ i = 3 ∨ i = 4 := by omega
      rcases hc with rfl | rfl | rfl | rfl | rfl
      · obtain rfl : g = 4 := by omega
        by_cases he : s1.e = 0
        · replace he := hd he
          by_cases hv : v = 70
          · obtain rfl : E = 0 := by rw [HE.out, show hdB.getD 0 0 = 70 from rfl, if_pos hv]
            subst hv
            clear HE HF
            go_upto_region 5 with (go_at_call 27; refine hn.mono ?_; rintro e w1 ⟨rfl, ho⟩)
            have k2 := ho.1.cells.2.2.1
            rw [he.out] at k2
            replace ho := hd ho
            clear hn he
            go_wp2_with fail
            go_roundg 4
            all_goals first | omega | exact ⟨1, by omega, rfl, hd (HN.out w1 w1 ho.out (by rw [failS_ok]; exact ROut.refl ho.out.1))⟩
          · obtain rfl : E = 4 := by rw [HE.out, show hdB.getD 0 0 = 70 from rfl, if_neg hv]
            have hv' : ((v : Int) != IntKind.u64.wrap (((⟨#[70, 66, 83, 67, 1]⟩ : ByteArray)[0]'(by decide)).toNat : Int)) = true := by
              rw [show IntKind.u64.wrap (((⟨#[70, 66, 83, 67, 1]⟩ : ByteArray)[0]'(by decide)).toNat : Int) = 70 by decide +kernel]
              simp
              omega
            clear HE hv
            go_upto_region 5 with (go_at_call 27; refine hn.mono ?_; rintro e w1 ⟨rfl, ho⟩)
            have k2 := ho.1.cells.2.2.1
            rw [he.out] at k2
            have hf1 := HF.out w1 ho
            replace ho := hd ho
            clear hn he HF
            go_wp2_with (go_at_call 28; refine hf1.mono ?_; rintro e w2 ⟨rfl, ho2⟩)
            go_roundg 4
            all_goals first | omega | exact ⟨1, by omega, rfl, hd (HN.out w1 w2 ho.out ho2)⟩
        · have d0 : (s1.e == 0) = false := by simpa using he
          replace he := hd he
          clear HE HF
          go_upto_region 5 with (go_at_call 27; refine hn.mono ?_; rintro e w1 ⟨rfl, ho⟩)
          have k2 := ho.1.cells.2.2.1
          replace ho := hd ho
          clear hn
          go_wp2_with fail
          go_roundg 4
          all_goals first | omega | exact ⟨1, by omega, rfl, hd (HN.out w1 w1 ho.out (by rw [failS_bad he.out]; exact ROut.refl ho.out.1))⟩
      · obtain rfl : g = 3 := by omega
        by_cases he : s1.e = 0
        · replace he := hd he
          by_cases hv : v = 66
          · obtain rfl : E = 0 := by rw [HE.out, show hdB.getD 1 0 = 66 from rfl, if_pos hv]
            subst hv
            clear HE HF
            go_upto_region 5 with (go_at_call 27; refine hn.mono ?_; rintro e w1 ⟨rfl, ho⟩)
            have k2 := ho.1.cells.2.2.1
            rw [he.out] at k2
            replace ho := hd ho
            clear hn he
            go_wp2_with fail
            go_roundg 3
            all_goals first | omega | exact ⟨2, by omega, rfl, hd (HN.out w1 w1 ho.out (by rw [failS_ok]; exact ROut.refl ho.out.1))⟩
          · obtain rfl : E = 4 := by rw [HE.out, show hdB.getD 1 0 = 66 from rfl, if_neg hv]
            have hv' : ((v : Int) != IntKind.u64.wrap (((⟨#[70, 66, 83, 67, 1]⟩ : ByteArray)[1]'(by decide)).toNat : Int)) = true := by
              rw [show IntKind.u64.wrap (((⟨#[70, 66, 83, 67, 1]⟩ : ByteArray)[1]'(by decide)).toNat : Int) = 66 by decide +kernel]
              simp
              omega
            clear HE hv
            go_upto_region 5 with (go_at_call 27; refine hn.mono ?_; rintro e w1 ⟨rfl, ho⟩)
            have k2 := ho.1.cells.2.2.1
            rw [he.out] at k2
            have hf1 := HF.out w1 ho
            replace ho := hd ho
            clear hn he HF
            go_wp2_with (go_at_call 28; refine hf1.mono ?_; rintro e w2 ⟨rfl, ho2⟩)
            go_roundg 3
            all_goals first | omega | exact ⟨2, by omega, rfl, hd (HN.out w1 w2 ho.out ho2)⟩
        · have d0 : (s1.e == 0) = false := by simpa using he
          replace he := hd he
          clear HE HF
          go_upto_region 5 with (go_at_call 27; refine hn.mono ?_; rintro e w1 ⟨rfl, ho⟩)
          have k2 := ho.1.cells.2.2.1
          replace ho := hd ho
          clear hn
          go_wp2_with fail
          go_roundg 3
          all_goals first | omega | exact ⟨2, by omega, rfl, hd (HN.out w1 w1 ho.out (by rw [failS_bad he.out]; exact ROut.refl ho.out.1))⟩
      · obtain rfl : g = 2 := by omega
        by_cases he : s1.e = 0
        · replace he := hd he
          by_cases hv : v = 83
          · obtain rfl : E = 0 := by rw [HE.out, show hdB.getD 2 0 = 83 from rfl, if_pos hv]
            subst hv
            clear HE HF
            go_upto_region 5 with (go_at_call 27; refine hn.mono ?_; rintro e w1 ⟨rfl, ho⟩)
            have k2 := ho.1.cells.2.2.1
            rw [he.out] at k2
            replace ho := hd ho
            clear hn he
            go_wp2_with fail
            go_roundg 2
            all_goals first | omega | exact ⟨3, by omega, rfl, hd (HN.out w1 w1 ho.out (by rw [failS_ok]; exact ROut.refl ho.out.1))⟩
          · obtain rfl : E = 4 := by rw [HE.out, show hdB.getD 2 0 = 83 from rfl, if_neg hv]
            have hv' : ((v : Int) != IntKind.u64.wrap (((⟨#[70, 66, 83, 67, 1]⟩ : ByteArray)[2]'(by decide)).toNat : Int)) = true := by
              rw [show IntKind.u64.wrap (((⟨#[70, 66, 83, 67, 1]⟩ : ByteArray)[2]'(by decide)).toNat : Int) = 83 by decide +kernel]
              simp
              omega
            clear HE hv
            go_upto_region 5 with (go_at_call 27; refine hn.mono ?_; rintro e w1 ⟨rfl, ho⟩)
            have k2 := ho.1.cells.2.2.1
            rw [he.out] at k2
            have hf1 := HF.out w1 ho
            replace ho := hd ho
            clear hn he HF
            go_wp2_with (go_at_call 28; refine hf1.mono ?_; rintro e w2 ⟨rfl, ho2⟩)
            go_roundg 2
            all_goals first | omega | exact ⟨3, by omega, rfl, hd (HN.out w1 w2 ho.out ho2)⟩
        · have d0 : (s1.e == 0) = false := by simpa using he
          replace he := hd he
          clear HE HF
          go_upto_region 5 with (go_at_call 27; refine hn.mono ?_; rintro e w1 ⟨rfl, ho⟩)
          have k2 := ho.1.cells.2.2.1
          replace ho := hd ho
          clear hn
          go_wp2_with fail
          go_roundg 2
          all_goals first | omega | exact ⟨3, by omega, rfl, hd (HN.out w1 w1 ho.out (by rw [failS_bad he.out]; exact ROut.refl ho.out.1))⟩
      · obtain rfl : g = 1 := by omega
        by_cases he : s1.e = 0
        · replace he := hd he
          by_cases hv : v = 67
          · obtain rfl : E = 0 := by rw [HE.out, show hdB.getD 3 0 = 67 from rfl, if_pos hv]
            subst hv
            clear HE HF
            go_upto_region 5 with (go_at_call 27; refine hn.mono ?_; rintro e w1 ⟨rfl, ho⟩)
            have k2 := ho.1.cells.2.2.1
            rw [he.out] at k2
            replace ho := hd ho
            clear hn he
            go_wp2_with fail
            go_roundg 1
            all_goals first | omega | exact ⟨4, by omega, rfl, hd (HN.out w1 w1 ho.out (by rw [failS_ok]; exact ROut.refl ho.out.1))⟩
          · obtain rfl : E = 4 := by rw [HE.out, show hdB.getD 3 0 = 67 from rfl, if_neg hv]
            have hv' : ((v : Int) != IntKind.u64.wrap (((⟨#[70, 66, 83, 67, 1]⟩ : ByteArray)[3]'(by decide)).toNat : Int)) = true := by
              rw [show IntKind.u64.wrap (((⟨#[70, 66, 83, 67, 1]⟩ : ByteArray)[3]'(by decide)).toNat : Int) = 67 by decide +kernel]
              simp
              omega
            clear HE hv
            go_upto_region 5 with (go_at_call 27; refine hn.mono ?_; rintro e w1 ⟨rfl, ho⟩)
            have k2 := ho.1.cells.2.2.1
            rw [he.out] at k2
            have hf1 := HF.out w1 ho
            replace ho := hd ho
            clear hn he HF
            go_wp2_with (go_at_call 28; refine hf1.mono ?_; rintro e w2 ⟨rfl, ho2⟩)
            go_roundg 1
            all_goals first | omega | exact ⟨4, by omega, rfl, hd (HN.out w1 w2 ho.out ho2)⟩
        · have d0 : (s1.e == 0) = false := by simpa using he
          replace he := hd he
          clear HE HF
          go_upto_region 5 with (go_at_call 27; refine hn.mono ?_; rintro e w1 ⟨rfl, ho⟩)
          have k2 := ho.1.cells.2.2.1
          replace ho := hd ho
          clear hn
          go_wp2_with fail
          go_roundg 1
          all_goals first | omega | exact ⟨4, by omega, rfl, hd (HN.out w1 w1 ho.out (by rw [failS_bad he.out]; exact ROut.refl ho.out.1))⟩
      · obtain rfl : g = 0 := by omega
        by_cases he : s1.e = 0
        · replace he := hd he
          by_cases hv : v = 1
          · obtain rfl : E = 0 := by rw [HE.out, show hdB.getD 4 0 = 1 from rfl, if_pos hv]
            subst hv
            clear HE HF
            go_upto_region 5 with (go_at_call 27; refine hn.mono ?_; rintro e w1 ⟨rfl, ho⟩)
            have k2 := ho.1.cells.2.2.1
            rw [he.out] at k2
            replace ho := hd ho
            clear hn he
            go_wp2_with fail
            go_roundg 0
            all_goals first | omega | exact ⟨5, by omega, rfl, hd (HN.out w1 w1 ho.out (by rw [failS_ok]; exact ROut.refl ho.out.1))⟩
          · obtain rfl : E = 4 := by rw [HE.out, show hdB.getD 4 0 = 1 from rfl, if_neg hv]
            have hv' : ((v : Int) != IntKind.u64.wrap (((⟨#[70, 66, 83, 67, 1]⟩ : ByteArray)[4]'(by decide)).toNat : Int)) = true := by
              rw [show IntKind.u64.wrap (((⟨#[70, 66, 83, 67, 1]⟩ : ByteArray)[4]'(by decide)).toNat : Int) = 1 by decide +kernel]
              simp
              omega
            clear HE hv
            go_upto_region 5 with (go_at_call 27; refine hn.mono ?_; rintro e w1 ⟨rfl, ho⟩)
            have k2 := ho.1.cells.2.2.1
            rw [he.out] at k2
            have hf1 := HF.out w1 ho
            replace ho := hd ho
            clear hn he HF
            go_wp2_with (go_at_call 28; refine hf1.mono ?_; rintro e w2 ⟨rfl, ho2⟩)
            go_roundg 0
            all_goals first | omega | exact ⟨5, by omega, rfl, hd (HN.out w1 w2 ho.out ho2)⟩
        · have d0 : (s1.e == 0) = false := by simpa using he
          replace he := hd he
          clear HE HF
          go_upto_region 5 with (go_at_call 27; refine hn.mono ?_; rintro e w1 ⟨rfl, ho⟩)
          have k2 := ho.1.cells.2.2.1
          replace ho := hd ho
          clear hn
          go_wp2_with fail
          go_roundg 0
          all_goals first | omega | exact ⟨5, by omega, rfl, hd (HN.out w1 w1 ho.out (by rw [failS_bad he.out]; exact ROut.refl ho.out.1))⟩
end
end Go.Proofs.Ytnkanaccacephaa.Doc
