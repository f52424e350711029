/- Ring, the program's. -/
import Derived.Test.YtcmcapddijpidaaGW6
namespace Go.Proofs.Ytcmcapddijpidaa
open Go.RowKit Go.Maps

set_option maxRecDepth 100000 in
set_option maxHeartbeats 4000000 in
theorem ring_any {w : World} {a : Option Addr} {n cp : Nat} {e : Es} (hR : Rd w a (wC e)) (hF : FitE e) (hN : Hid (e.length = n)) (h8 : n ≤ 1048576) :
    Calls Try.prog 7 #[.slice a n cp] w fun x w' => RingOut w e x w' := by
  have hmm : ∀ W : World, (Instr.makeMap 29 none).run Try.prog W = .ok (.map (some W.heap.size)) (W.alloc (.map #[] 0)) := fun W => rfl
  have hcn := counting_any (cp := cp) hR hF hN (by omega)
  obtain ⟨f, hf⟩ : ∃ f, Hid (nxs e = f) := ⟨_, rfl⟩
  obtain ⟨U, hU⟩ : ∃ U, Hid (ends e = U) := ⟨_, rfl⟩
  have HU : Hid (U.length ≤ 6000000) := hd (by rw [← hU.out, ends_len, hN.out]; omega)
  have HUF : Hid (∀ x ∈ U, Fit64 x) := hd (fun x hx => fit_ends hF (by rw [hU.out]; exact hx))
  have HFF : Hid (FitF f) := hd (by rw [← hf.out]; exact fit_nxs hF)
  have HUM : Hid (∀ x q, f x = some q → x ∈ U ∧ q ∈ U) := hd (fun x q h => by rw [← hU.out]; exact ends_nxs (by rw [hf.out]; exact h))
  have HFE := hd hF
  clear hR hF hU
  go_enter Try.func7, Try.ntmps7
  go_wp2_with fail
  go_step3
  go_upto_region 2 with (first | (go_at_call 13; refine hcn.mono ?_; rintro x0 w1 ⟨m, c, rfl, m1, m2, m3, m4⟩))
  rw [hf.out] at m4
  have HM1 := hd m4
  have HB1 := hd m3
  have HC : Hid (c ≤ 6000000) := hd (by have := hN.out; omega)
  clear m1 m2 m3 m4 hcn
  go_wp2_with fail
  obtain ⟨m2, hm2⟩ : ∃ m2, Hid (w1.heap.size = m2) := ⟨_, rfl⟩
  obtain ⟨w2, hw2⟩ : ∃ W, Hid (w1.alloc (.map #[] 0) = W) := ⟨_, rfl⟩
  have HB2 : Hid (Below w1.heap.size w1 w2) := hd (by rw [← hw2.out]; exact below_al w1 _)
  have HM2 : Hid (MapAt w2 m f c) := hd (HM1.out.below HB2.out)
  have HCM : Hid (MapAt w2 m2 (fun _ => none) 0) := hd (by rw [← hw2.out, ← hm2.out]; exact MapAt.new w1)
  have HNE : Hid (m ≠ m2) := hd (by have := HM1.out.lt; have := hm2.out; omega)
  have HGE : Hid (w.heap.size ≤ m2) := hd (by have := HB1.out.size; have := hm2.out; omega)
  have HB3 : Hid (Below w.heap.size w w2) := hd (HB1.out.trans (HB2.out.mono HB1.out.size))
  try rw [hw2.out]
  try simp only [hm2.out]
  have hky := keys_any m w2
  have hso := sorted_any HM2.out HC.out
  clear hm2 hw2 HM1 HB1 HB2
  go_step3
  go_upto_region 4 with (first | (go_at_call 15; refine hky.mono ?_; rintro x1 w3 ⟨rfl, rfl⟩) | (go_at_call 14; refine hso.mono ?_; rintro x2 w4 ⟨K, k1, aK, cK, rfl, k2⟩))
  obtain ⟨nk, hnk⟩ : ∃ nk, Hid (K.length = nk) := ⟨_, rfl⟩
  rw [hnk.out]
  have hnb : nk ≤ 9223372036854775807 := by have h1 := k2.row.2.1; have h2 := k2.row.2.2.1; unfold maxLen at h2; have := hnk.out; omega
  obtain ⟨o, how⟩ := ways_ex (nx := f) (U := U) (fun x q h => (HUM.out x q h).2) K 0 (fun _ => none) (fun x hx => by
    have := (k1.2 x).1 hx
    cases hq : f x with
    | none => rw [hq] at this; cases this
    | some q => exact (HUM.out x q hq).1)
  have HKU : Hid (∀ i, i < nk → K.getD i 0 ∈ U) := hd (fun i hi => by
    have := (k1.2 _).1 (k_mem (by rw [hnk.out]; exact hi))
    cases hq : f (K.getD i 0) with
    | none => rw [hq] at this; cases this
    | some q => exact (HUM.out _ q hq).1)
  have HO : Hid (o = none ∨ ∃ z, o = some z ∧ ∃ k, Turn f z k ∧ k ≤ 6000000 ∧ Fit64 z) := hd (by
    cases ho : o with
    | none => exact .inl rfl
    | some z =>
      obtain ⟨k, hk⟩ := ways_ring (how) ho (fun x g h => by cases h)
      refine .inr ⟨z, rfl, k, hk, Nat.le_trans (hk.le (fun x q h => (HUM.out x q h).2)) HU.out, ?_⟩
      have := hk.at (j := 0) (by omega)
      have h1 := hk.next (j := 0) hk.1
      exact HUF.out _ (HUM.out _ _ h1).1)
  have HKK : Hid (Keys (nxs e) K ∧ Ways (nxs e) K 0 (fun _ => none) o) := hd (by rw [hf.out]; exact ⟨k1, how⟩)
  have HB4 : Hid (Below w2.heap.size w2 w4) := hd ((below_al w2 _).trans (k2.bel.mono (by simp)))
  have HBS : Hid (Bs w w4 m m2 f U (fun g => K.getD g 0) (fun _ => none) ∧ (∀ x g, (fun _ => none : Cm) x = some g → g < 0) ∧ Ways f (K.drop 0) 0 (fun _ => none) o) := hd ⟨⟨HB3.out.trans (HB4.out.mono HB3.out.size), ⟨c, HM2.out.below HB4.out⟩, ⟨0, (HCM.out.below HB4.out).congr (fun x => rfl), by have := free_le U (fun _ => none); omega⟩, HNE.out, HGE.out⟩, fun x g h => (by cases h), by rw [List.drop_zero]; exact how⟩
  have HRW : Hid (Row w4 3 1 aK nk cK (iC K) ∧ ∀ k, blk aK = some k → k ≠ m2) := hd ⟨by rw [← hnk.out]; exact k2.row, fun k hk e => by
    have h1 := k2.new k hk
    have h2 := HCM.out.lt
    simp at h1
    omega⟩
  have HKI : Hid (K.Pairwise (· < ·)) := hd k1.1
  clear k1 k2 how HM2 HCM HB4 HB3 hky hso hmm HGE
  go_wp2_with fail
  go_loopg [6, 7, 8, 9, 10, 18, 19, 20, 21, 22, 23, 24, 25, 26, 27, 28, 29, 30, 31, 32, 33, 34, 35, 36, 37, 38, 39, 40, 41, 42, 43, 44, 45, 46, 47, 48, 49] nk (fun k v6 v7 v8 v9 v10 v18 v19 v20 v21 v22 v23 v24 v25 v26 v27 v28 v29 v30 v31 v32 v33 v34 v35 v36 v37 v38 v39 v40 v41 v42 v43 v44 v45 v46 v47 v48 v49 wr => ∃ i : Nat, i + k = nk ∧ v18 = .int .i64 (i : Int) ∧ ∃ cm, Hid (Bs w wr m m2 f U (fun g => K.getD g 0) cm ∧ (∀ x g, cm x = some g → g < i) ∧ Ways f (K.drop i) i cm o) ∧ Hid (Row wr 3 1 aK nk cK (iC K) ∧ ∀ k, blk aK = some k → k ≠ m2))
  case atStart => exact ⟨0, by omega, by go_num, _, HBS, HRW⟩
  case round =>
    obtain ⟨i, hik, rfl, cm, HX, HR⟩ := hrel
    clear HBS HRW
    by_cases h0 : gk = 0
    · subst h0
      have hi : i = nk := by omega
      subst hi
      have HE : Hid (RingOut w e (.returned (.slice none 0 0)) wr) := hd (by
        have h3 := HX.out.2.2
        rw [List.drop_of_length_le (by rw [hnk.out]; exact Nat.le_refl _)] at h3
        cases h3
        exact RingOut.no HKK.out.1 HKK.out.2 HX.out.1.bel)
      clear HX HR HO HKK hik HKU HUM HFF HUF HU
      go_wp2_with fail
      rw [Exit.noGoto_ret]
      go_ret
      exact HE.out
    · have hlt : i < nk := by omega
      have hik' : i < K.length := by rw [hnk.out]; exact hlt
      obtain ⟨g, rfl, cK0⟩ : ∃ g, aK = some ⟨g, 0, none⟩ ∧ wr.cell? ⟨g, i, none⟩ = some (.int .i64 (K.getD i 0)) := by
        obtain ⟨g, e1, h1⟩ := HR.out.1.cell i (by omega)
        exact ⟨g, e1, by rw [h1]; exact iC_at K i hik' 0⟩
      obtain ⟨x, hx⟩ : ∃ x, Hid (K.getD i 0 = x) := ⟨_, rfl⟩
      rw [hx.out] at cK0
      have HXU : Hid (x ∈ U) := hd (by rw [← hx.out]; exact HKU.out i hlt)
      obtain ⟨k0, hw0⟩ := wy_start (by have := HX.out.2.2; rw [k_drop hik', hx.out] at this; exact this) HX.out.2.1 HXU.out
      have HBW : Hid (Bs w wr m m2 f U (fun g => K.getD g 0) cm ∧ Wy f U (K.drop (i + 1)) i o cm x true k0) := hd ⟨HX.out.1, hw0⟩
      obtain ⟨GK, hGK⟩ : ∃ GK, Hid (gk = GK) := ⟨_, rfl⟩
      have hGi : i + GK = nk := by rw [← hGK.out]; exact hik
      have hG0 : ¬ GK = 0 := by rw [← hGK.out]; exact h0
      clear HX hw0 h0
      go_upto_region 7 with fail
      obtain ⟨wo, hwo⟩ : ∃ W, W = wr := ⟨_, rfl⟩
      go_wp2_with fail
      go_loopg [7, 8, 9, 10, 23, 24, 25, 26, 27, 28, 29, 30, 31, 32, 33, 34, 35, 36, 37, 38, 39, 40, 41, 42, 43, 44, 45, 46, 47, 48] k0 (fun k v7 v8 v9 v10 v23 v24 v25 v26 v27 v28 v29 v30 v31 v32 v33 v34 v35 v36 v37 v38 v39 v40 v41 v42 v43 v44 v45 v46 v47 v48 wr => ∃ (p : Int) (goes : Bool) (cm : Cm), v7 = .int .i64 p ∧ v8 = .bool goes ∧ Hid (Bs w wr m m2 f U (fun g => K.getD g 0) cm ∧ Wy f U (K.drop (i + 1)) i o cm p goes k) ∧ Hid (Row wr 3 1 (some ⟨g, 0, none⟩) nk cK (iC K) ∧ ∀ k, blk (some (⟨g, 0, none⟩ : Addr)) = some k → k ≠ m2))
      case atStart => exact ⟨x, true, cm, rfl, rfl, HBW, HR⟩
      case round =>
        obtain ⟨p, goes, cn, rfl, rfl, HW, HQ⟩ := hrel
        clear HBW HR
        cases goes with
        | false =>
          obtain ⟨hk0, hw1, hw2⟩ := HW.out.2.stop
          have HE := hd (And.intro HW.out.1 (And.intro hw2 hw1))
          clear hw1 hw2 HW
          go_wp2_with fail
          go_roundg (GK - 1)
          case rel => exact ⟨i + 1, by omega, by go_num, cn, HE, HQ⟩
          case measure => omega
        | true =>
          obtain ⟨hkp, hpU⟩ := HW.out.2.pos
          have hpf := HUF.out p hpU
          have hlk := HW.out.1.look hpf
          cases hc : cn p with
          | none =>
            rw [show mkf (fun g => K.getD g 0) cn p = none by unfold mkf; rw [hc]; rfl] at hlk
            obtain ⟨w5, hst, hB5, hM5⟩ := HW.out.1.mark (i := i) hc hpU HU.out hpf (show Fit64 (K.getD i 0) by rw [hx.out]; exact HUF.out x HXU.out)
            have hst : (Instr.mapUpdate 29 (.map (some m2)) (.int .i64 p) (.int .i64 (K.getD i 0))).run Try.prog wr = .ok () w5 := hst
            rw [hx.out] at hst
            have HR5 : Hid (Row w5 3 1 (some ⟨g, 0, none⟩) nk cK (iC K) ∧ ∀ k, blk (some (⟨g, 0, none⟩ : Addr)) = some k → k ≠ m2) := hd ⟨HQ.out.1.mod hM5 (fun k hk e => HQ.out.2 k hk e), HQ.out.2⟩
            have hl5 := hB5.lookTo hpf
            have HB5 := hd hB5
            cases hn : f p with
            | none =>
              rw [hn] at hl5
              have HE := hd (And.intro HB5.out (HW.out.2.sink hc hn 0))
              clear HW HQ hB5 HB5 hM5 hpf hpU hc hn
              go_wp2_with fail
              go_roundg 0
              case rel => exact ⟨0, false, _, rfl, rfl, HE, HR5⟩
              case measure => omega
            | some q =>
              rw [hn] at hl5
              have HE := hd (And.intro HB5.out (HW.out.2.go (fun x q h => (HUM.out x q h).2) hc hn))
              clear HW HQ hB5 HB5 hM5 hpf hpU hc hn
              go_wp2_with fail
              go_roundg (gk - 1)
              case rel => exact ⟨q, true, _, rfl, rfl, HE, HR5⟩
              case measure => omega
          | some j =>
            rw [show mkf (fun g => K.getD g 0) cn p = some (K.getD j 0) by unfold mkf; rw [hc]; rfl] at hlk
            by_cases hj : j = i
            · subst hj
              rw [hx.out] at hlk
              have hop := HW.out.2.ring hc
              obtain ⟨kk, hT, hkk, hzf⟩ : ∃ k, Turn f p k ∧ k ≤ 6000000 ∧ Fit64 p := by
                rcases HO.out with h | ⟨z, h, k, h1, h2, h3⟩
                · rw [h] at hop; cases hop
                · rw [h] at hop; cases hop; exact ⟨k, h1, h2, h3⟩
              obtain ⟨ct, hct⟩ := HW.out.1.goal
              have har := around_any hct HFF.out hT hkk hzf
              have HFIN : Hid (∀ e' w', ToldOut wr f p e' w' → RingOut w e e' w') := hd (fun e' w' h => RingOut.yes HKK.out.1 (by have := HKK.out.2; rw [hop] at this; exact this) HW.out.1.bel (by rw [hf.out]; exact h))
              clear HW HQ HO HKK hT hkk hct hzf hpf hpU hc
              go_wp2_with (go_at_call 16; (with_reducible refine har.mono ?_); rintro x9 w9 h9; have h9 := hd (HFIN.out _ _ h9); obtain ⟨l9, q1, a9, c9, rfl, q2⟩ := h9.out)
              rw [Exit.noGoto_ret]
              go_ret
              exact h9.out
            · have hne : (K.getD j 0 == x) = false := by
                have := keys_inj HKI.out hik' (Nat.le_of_lt_succ ((HW.out.2.1 p j hc : j ≤ i) |> Nat.lt_succ_of_le)) hj
                rw [hx.out] at this
                simpa using this
              obtain ⟨y, hy⟩ : ∃ y, Hid (K.getD j 0 = y) := ⟨_, rfl⟩
              rw [hy.out] at hlk hne
              obtain ⟨hw1, hw2⟩ := HW.out.2.met hc hj
              have HE := hd (And.intro HW.out.1 (And.intro hw2 hw1))
              clear HW hw1 hw2 hpf hpU hc
              go_wp2_with fail
              go_roundg (GK - 1)
              case rel => exact ⟨i + 1, by omega, by go_num, cn, HE, HQ⟩
              case measure => omega
end Go.Proofs.Ytcmcapddijpidaa
