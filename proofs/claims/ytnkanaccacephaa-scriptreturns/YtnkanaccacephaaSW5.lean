/- The program's reader: the head; what is left. -/
import Derived.Test.YtnkanaccacephaaSW4
namespace Go.Proofs.Ytnkanaccacephaa
open Go.RowKit

section
variable {w : World} {r : Nat} {a : Option Addr} {cap : Nat} {bs : List Nat} {s : St}
set_option maxRecDepth 100000 in
set_option maxHeartbeats 4000000 in
theorem head_any (h : RdAt w r a cap bs s) (h0 : s.e = 0 ∧ s.at_ = 0 ∧ s.nx = 0) :
    Calls Try.prog 31 #[.pointer (some ⟨r, 0, none⟩)] w fun e w' => e = .returned (.tuple #[]) ∧ ∃ s', ROut w r a cap bs s' w' ∧ ∃ acc, Stage (repP (fun acc => numP 1 (hdF acc)) 5 [] bs 0) s' (pure_ acc bs s'.nx) := by
  have HS : Hid (∃ s' acc, acc.length = 0 ∧ (s'.e = 0 → s'.nx = 0) ∧ Stage (repP (fun acc => numP 1 (hdF acc)) 5 [] bs 0) s' (repP (fun acc => numP 1 (hdF acc)) 5 acc bs s'.nx) ∧ ROut w r a cap bs s' w) := hd ⟨s, [], rfl, fun _ => h0.2.2, .inl ⟨h0.1, h0.2.1, by rw [h0.2.2]⟩, ROut.refl h⟩
  clear h h0
  go_enter Try.func31, Try.ntmps31
  go_wp2_with fail
  go_loopg [2, 3, 4, 5, 6, 7, 8, 9, 10, 11, 12, 13, 14, 15] 5 (fun g v2 v3 v4 v5 v6 v7 v8 v9 v10 v11 v12 v13 v14 v15 wr => ∃ i : Nat, i + g = 5 ∧ v3 = .int .i64 (i : Int) ∧ Hid (∃ s' acc, acc.length = i ∧ (s'.e = 0 → s'.nx = i) ∧ Stage (repP (fun acc => numP 1 (hdF acc)) 5 [] bs 0) s' (repP (fun acc => numP 1 (hdF acc)) g acc bs s'.nx) ∧ ROut w r a cap bs s' wr))
  case atStart => exact ⟨0, by omega, by go_num, HS⟩
  case round =>
    obtain ⟨i, hi, rfl, HW⟩ := hrel
    clear HS
    by_cases h0 : gk = 0
    · subst h0
      obtain rfl : i = 5 := by omega
      go_wp2_with fail
      refine bodyPost_end (results_none rfl _ _ _) rfl ?_
      obtain ⟨s', acc, -, -, h3, h4⟩ := HW.out
      exact ⟨rfl, s', h4, acc, h3⟩
    · obtain ⟨g, rfl⟩ : ∃ g, gk = g + 1 := ⟨gk - 1, by omega⟩
      obtain ⟨s', acc, e1, e2, e3, e4⟩ := HW.out
      clear HW
      have hn : Calls Try.prog 35 #[.pointer (some ⟨r, 0, none⟩), .int .i64 1] wr.drew fun e w' => e = .returned (.int .u64 ((numS bs 1 s').1 : Nat)) ∧ ROut wr r a cap bs (numS bs 1 s').2 w' :=
        (num_any (e4.1.below (below_draw wr 1)) 1 ⟨by omega, by omega⟩).mono fun e w' ⟨he, ho⟩ => ⟨he, ho.1, (Mod.of_below _ (below_draw wr 1)).trans ho.2 (fun _ h => .inl h)⟩
      have hl := numS_lt (s := s') e4.1.byte 1 (by omega)
      have e5 := Stage.chk e3
      have HX : Hid ((numS bs 1 s').2.e = 0 → (numS bs 1 s').2.fr = i ∧ (numS bs 1 s').2.nx = i + 1) := hd (by
        intro hz
        by_cases hz0 : s'.e = 0
        · unfold numS at hz ⊢
          rw [if_neg (by simp [hz0])] at hz ⊢
          split at hz
          · simp at hz
          · next hle =>
            rw [if_neg hle]
            exact ⟨e2 hz0, by simp [e2 hz0]⟩
        · rw [numS_bad hz0] at hz
          exact absurd hz hz0)
      have HN : Hid (∀ (W1 W2 : World), ROut wr r a cap bs (numS bs 1 s').2 W1 → ROut W1 r a cap bs (failS (numS bs 1 s').2 (hdF acc (numS bs 1 s').1) (i : Int)) W2 → ∃ s' acc, acc.length = i + 1 ∧ (s'.e = 0 → s'.nx = i + 1) ∧ Stage (repP (fun acc => numP 1 (hdF acc)) 5 [] bs 0) s' (repP (fun acc => numP 1 (hdF acc)) g acc bs s'.nx) ∧ ROut w r a cap bs s' W2) := hd (by
        intro W1 W2 o1 o2
        have hsame : failS (numS bs 1 s').2 (hdF acc (numS bs 1 s').1) (i : Int) = (chkS bs 1 (hdF acc) s').2 := by
          unfold chkS
          by_cases hz : (numS bs 1 s').2.e = 0
          · rw [(HX.out hz).1]
          · rw [failS_bad hz, failS_bad hz]
        rw [hsame] at o2
        refine ⟨_, acc ++ [(chkS bs 1 (hdF acc) s').1], by simp [e1], fun hz => ?_, e5, (e4.trans o1).trans o2⟩
        have := chk_val hz
        rw [this.2.2.2.2]
        simp [e2 this.1])
      clear e5 e3 HX
      have HA := hd e1
      clear e1 e2 h0
      have HE : Hid (hdF acc (numS bs 1 s').1 = if (numS bs 1 s').1 = hdB.getD i 0 then 0 else 4) := hd (by unfold hdF; rw [HA.out])
      have HF : Hid (∀ (W1 : World), ROut wr r a cap bs (numS bs 1 s').2 W1 → Calls Try.prog 36 #[.pointer (some ⟨r, 0, none⟩), .int .i64 4, .int .i64 i] W1 fun e w' => e = .returned (.tuple #[]) ∧ ROut W1 r a cap bs (failS (numS bs 1 s').2 4 (i : Int)) w') := hd fun W1 o1 => fail_any o1.1 4 (i : Int) (by decide)
      clear HA e4
      generalize hdF acc (numS bs 1 s').1 = E at *
      generalize (numS bs 1 s').1 = v at *
      generalize (numS bs 1 s').2 = s1 at *
      obtain ⟨I, hI⟩ : ∃ I : Int, Hid ((i : Int) = I) := ⟨_, rfl⟩
      rw [hI.out] at HF HN
      have hc : i = 0 ∨ i = 1 ∨ i = 2 ∨ i = 3 ∨ i = 4 := by omega
      rcases hc with rfl | rfl | rfl | rfl | rfl
      · obtain rfl : g = 4 := by omega
        obtain rfl : I = 0 := by rw [← hI.out]; rfl
        by_cases hv : v = 70
        · obtain rfl : E = 0 := by rw [HE.out, show hdB.getD 0 0 = 70 from rfl, if_pos hv]
          subst hv
          clear HE HF hl
          go_upto_region 3 with fail
          go_region_with (first | (go_at_call 35; refine hn.mono ?_; rintro e w1 ⟨rfl, ho⟩))
          all_goals go_wp2_with fail
          all_goals go_roundg 4
          all_goals first | omega | exact ⟨1, by omega, rfl, hd (HN.out w1 w1 ho (by rw [failS_ok]; exact ROut.refl ho.1))⟩
        · obtain rfl : E = 4 := by rw [HE.out, show hdB.getD 0 0 = 70 from rfl, if_neg hv]
          have hv' : ((v : Int) != IntKind.u64.wrap (((⟨#[70, 66, 83, 67, 1]⟩ : ByteArray)[0]'(by decide)).toNat : Int)) = true := by
            rw [show IntKind.u64.wrap (((⟨#[70, 66, 83, 67, 1]⟩ : ByteArray)[0]'(by decide)).toNat : Int) = 70 by decide +kernel]
            simp
            omega
          clear HE hv
          go_upto_region 3 with fail
          go_region_with (first | (go_at_call 35; refine hn.mono ?_; rintro e w1 ⟨rfl, ho⟩; have hf1 := HF.out w1 ho))
          all_goals go_wp2_with (go_at_call 36; refine hf1.mono ?_; rintro e w2 ⟨rfl, ho2⟩)
          all_goals go_roundg 4
          all_goals first | omega | exact ⟨1, by omega, rfl, hd (HN.out w1 w2 ho ho2)⟩
      · obtain rfl : g = 3 := by omega
        obtain rfl : I = 1 := by rw [← hI.out]; rfl
        by_cases hv : v = 66
        · obtain rfl : E = 0 := by rw [HE.out, show hdB.getD 1 0 = 66 from rfl, if_pos hv]
          subst hv
          clear HE HF hl
          go_upto_region 3 with fail
          go_region_with (first | (go_at_call 35; refine hn.mono ?_; rintro e w1 ⟨rfl, ho⟩))
          all_goals go_wp2_with fail
          all_goals go_roundg 3
          all_goals first | omega | exact ⟨2, by omega, rfl, hd (HN.out w1 w1 ho (by rw [failS_ok]; exact ROut.refl ho.1))⟩
        · obtain rfl : E = 4 := by rw [HE.out, show hdB.getD 1 0 = 66 from rfl, if_neg hv]
          have hv' : ((v : Int) != IntKind.u64.wrap (((⟨#[70, 66, 83, 67, 1]⟩ : ByteArray)[1]'(by decide)).toNat : Int)) = true := by
            rw [show IntKind.u64.wrap (((⟨#[70, 66, 83, 67, 1]⟩ : ByteArray)[1]'(by decide)).toNat : Int) = 66 by decide +kernel]
            simp
            omega
          clear HE hv
          go_upto_region 3 with fail
          go_region_with (first | (go_at_call 35; refine hn.mono ?_; rintro e w1 ⟨rfl, ho⟩; have hf1 := HF.out w1 ho))
          all_goals go_wp2_with (go_at_call 36; refine hf1.mono ?_; rintro e w2 ⟨rfl, ho2⟩)
          all_goals go_roundg 3
          all_goals first | omega | exact ⟨2, by omega, rfl, hd (HN.out w1 w2 ho ho2)⟩
      · obtain rfl : g = 2 := by omega
        obtain rfl : I = 2 := by rw [← hI.out]; rfl
        by_cases hv : v = 83
        · obtain rfl : E = 0 := by rw [HE.out, show hdB.getD 2 0 = 83 from rfl, if_pos hv]
          subst hv
          clear HE HF hl
          go_upto_region 3 with fail
          go_region_with (first | (go_at_call 35; refine hn.mono ?_; rintro e w1 ⟨rfl, ho⟩))
          all_goals go_wp2_with fail
          all_goals go_roundg 2
          all_goals first | omega | exact ⟨3, by omega, rfl, hd (HN.out w1 w1 ho (by rw [failS_ok]; exact ROut.refl ho.1))⟩
        · obtain rfl : E = 4 := by rw [HE.out, show hdB.getD 2 0 = 83 from rfl, if_neg hv]
          have hv' : ((v : Int) != IntKind.u64.wrap (((⟨#[70, 66, 83, 67, 1]⟩ : ByteArray)[2]'(by decide)).toNat : Int)) = true := by
            rw [show IntKind.u64.wrap (((⟨#[70, 66, 83, 67, 1]⟩ : ByteArray)[2]'(by decide)).toNat : Int) = 83 by decide +kernel]
            simp
            omega
          clear HE hv
          go_upto_region 3 with fail
          go_region_with (first | (go_at_call 35; refine hn.mono ?_; rintro e w1 ⟨rfl, ho⟩; have hf1 := HF.out w1 ho))
          all_goals go_wp2_with (go_at_call 36; refine hf1.mono ?_; rintro e w2 ⟨rfl, ho2⟩)
          all_goals go_roundg 2
          all_goals first | omega | exact ⟨3, by omega, rfl, hd (HN.out w1 w2 ho ho2)⟩
      · obtain rfl : g = 1 := by omega
        obtain rfl : I = 3 := by rw [← hI.out]; rfl
        by_cases hv : v = 67
        · obtain rfl : E = 0 := by rw [HE.out, show hdB.getD 3 0 = 67 from rfl, if_pos hv]
          subst hv
          clear HE HF hl
          go_upto_region 3 with fail
          go_region_with (first | (go_at_call 35; refine hn.mono ?_; rintro e w1 ⟨rfl, ho⟩))
          all_goals go_wp2_with fail
          all_goals go_roundg 1
          all_goals first | omega | exact ⟨4, by omega, rfl, hd (HN.out w1 w1 ho (by rw [failS_ok]; exact ROut.refl ho.1))⟩
        · obtain rfl : E = 4 := by rw [HE.out, show hdB.getD 3 0 = 67 from rfl, if_neg hv]
          have hv' : ((v : Int) != IntKind.u64.wrap (((⟨#[70, 66, 83, 67, 1]⟩ : ByteArray)[3]'(by decide)).toNat : Int)) = true := by
            rw [show IntKind.u64.wrap (((⟨#[70, 66, 83, 67, 1]⟩ : ByteArray)[3]'(by decide)).toNat : Int) = 67 by decide +kernel]
            simp
            omega
          clear HE hv
          go_upto_region 3 with fail
          go_region_with (first | (go_at_call 35; refine hn.mono ?_; rintro e w1 ⟨rfl, ho⟩; have hf1 := HF.out w1 ho))
          all_goals go_wp2_with (go_at_call 36; refine hf1.mono ?_; rintro e w2 ⟨rfl, ho2⟩)
          all_goals go_roundg 1
          all_goals first | omega | exact ⟨4, by omega, rfl, hd (HN.out w1 w2 ho ho2)⟩
      · obtain rfl : g = 0 := by omega
        obtain rfl : I = 4 := by rw [← hI.out]; rfl
        by_cases hv : v = 1
        · obtain rfl : E = 0 := by rw [HE.out, show hdB.getD 4 0 = 1 from rfl, if_pos hv]
          subst hv
          clear HE HF hl
          go_upto_region 3 with fail
          go_region_with (first | (go_at_call 35; refine hn.mono ?_; rintro e w1 ⟨rfl, ho⟩))
          all_goals go_wp2_with fail
          all_goals go_roundg 0
          all_goals first | omega | exact ⟨5, by omega, rfl, hd (HN.out w1 w1 ho (by rw [failS_ok]; exact ROut.refl ho.1))⟩
        · obtain rfl : E = 4 := by rw [HE.out, show hdB.getD 4 0 = 1 from rfl, if_neg hv]
          have hv' : ((v : Int) != IntKind.u64.wrap (((⟨#[70, 66, 83, 67, 1]⟩ : ByteArray)[4]'(by decide)).toNat : Int)) = true := by
            rw [show IntKind.u64.wrap (((⟨#[70, 66, 83, 67, 1]⟩ : ByteArray)[4]'(by decide)).toNat : Int) = 1 by decide +kernel]
            simp
            omega
          clear HE hv
          go_upto_region 3 with fail
          go_region_with (first | (go_at_call 35; refine hn.mono ?_; rintro e w1 ⟨rfl, ho⟩; have hf1 := HF.out w1 ho))
          all_goals go_wp2_with (go_at_call 36; refine hf1.mono ?_; rintro e w2 ⟨rfl, ho2⟩)
          all_goals go_roundg 0
          all_goals first | omega | exact ⟨5, by omega, rfl, hd (HN.out w1 w2 ho ho2)⟩
set_option maxRecDepth 100000 in
set_option maxHeartbeats 1000000 in
theorem rest_any (h : RdAt w r a cap bs s) :
    Calls Try.prog 34 #[.pointer (some ⟨r, 0, none⟩)] w fun e w' => e = .returned (.tuple #[]) ∧ ROut w r a cap bs (failS s (if s.nx < bs.length then 6 else 0) s.nx) w' := by
  have k0 := h.cells.1
  have k2 := h.cells.2.2.1
  have H := hd h
  have hf : Hid (∀ n, Calls Try.prog 36 #[.pointer (some ⟨r, 0, none⟩), .int .i64 6, .int .i64 s.nx] (w.drewN n) fun e w' => e = .returned (.tuple #[]) ∧ ROut w r a cap bs (failS s 6 s.nx) w') := hd fun n =>
    (fail_any (h.below (below_draw w n)) 6 s.nx (by decide)).mono fun e w' ⟨he, ho⟩ => ⟨he, ho.1, (Mod.of_below _ (below_draw w n)).trans ho.2 (fun _ h => .inl h)⟩
  clear h
  by_cases h1 : s.nx < bs.length
  · rw [if_pos h1]
    have h1' : (s.nx : Int) < (bs.length : Int) := by omega
    go_enter Try.func34, Try.ntmps34
    go_upto_region 0 with fail
    go_quiet (fail)
    have k2' : (w.drewN nq).cell? ⟨r, 2, none⟩ = some (.int .i64 s.nx) := k2
    go_wp2_with (go_at_call 36; refine (hf.out nq).mono ?_; rintro e w1 ⟨rfl, ho⟩)
    refine bodyPost_end (results_none rfl _ _ _) rfl ?_
    exact ⟨rfl, ho⟩
  · rw [if_neg h1]
    have h1' : decide ((s.nx : Int) < (bs.length : Int)) = false := by simp; omega
    have h1n : (bs.length : Int) ≤ (s.nx : Int) := by omega
    go_enter Try.func34, Try.ntmps34
    go_upto_region 0 with fail
    go_quiet (fail)
    go_wp2_with fail
    refine bodyPost_end (results_none rfl _ _ _) rfl ?_
    rw [failS_ok]
    exact ⟨rfl, (ROut.refl H.out).after (below_draw w nq)⟩
end
end Go.Proofs.Ytnkanaccacephaa
