/- LocksLay. -/
import Derived.Test.YtdihbbpndijdoaaKY2
namespace Go.Proofs.Ytdihbbpndijdoaa
open Go.RowKit Go.Maps

theorem layE_many {os : List Int} {qs : Qs} (h : 8 < os.length ∨ 8 < qs.length) : layE os qs = 3 := by unfold layE; rw [if_pos h]
theorem layE_uneven {os : List Int} {qs : Qs} (h1 : os.length ≤ 8) (h2 : qs.length ≤ 8) (h3 : os.length ≠ qs.length) : layE os qs = 4 := by unfold layE; rw [if_neg (by omega), if_pos h3]
theorem layE_even {os : List Int} {qs : Qs} (h1 : os.length ≤ 8) (h3 : os.length = qs.length) : layE os qs = if layF [] os qs = true then 0 else 4 := by unfold layE; rw [if_neg (by omega), if_neg (by omega)]
/-- What both make of what is laid. -/
theorem lay_all {w : World} {a1 a2 : Option Addr} {n1 n2 c1 c2 : Nat} {os : List Int} {ea : List Qe} (hR1 : Rd w a1 (iC os)) (hR2 : RdQ w a2 ea) (hN1 : os.length = n1) (hN2 : ea.length = n2) (hf1 : ∀ o ∈ os, Fit64 o) (hf2 : ∀ i, ∀ p ∈ qAt (qsOf ea) i, Fit64 p) (ht : total (qsOf ea) < 6000000000000) :
    Calls Try.prog 11 #[.slice a1 n1 c1, .slice a2 n2 c2] w fun e w' => ∃ P, e = .returned (.tuple #[.pointer P, .int .i64 (layE os (qsOf ea))]) ∧ Below w.heap.size w w' ∧ ((layE os (qsOf ea) ≠ 0 ∧ P = none) ∨ (layE os (qsOf ea) = 0 ∧ ∃ b F, P = some ⟨b, 0, none⟩ ∧ Lk w' b F os (qsOf ea) ∧ ∀ k, F k → w.heap.size ≤ k)) := by
  have hq : (qsOf ea).length = n2 := by rw [qsOf_len, hN2]
  by_cases h1 : 8 < n1 ∨ 8 < n2
  · have e := layE_many (os := os) (qs := qsOf ea) (by rw [hN1, hq]; exact h1)
    rw [e]
    refine (lay_many h1).mono ?_
    rintro e w' ⟨rfl, rfl⟩
    exact ⟨none, rfl, below_same _, .inl ⟨by decide, rfl⟩⟩
  · by_cases h2 : n1 = n2
    · subst h2
      have e := layE_even (os := os) (qs := qsOf ea) (by omega) (by omega)
      refine (lay_any hR1 hR2 (hd hN1) (hd hN2) (by omega) hf1 hf2 ht).mono ?_
      rintro e2 w' ⟨hb, ⟨hr, rfl⟩ | ⟨hr, b, F, rfl, hl, hF⟩⟩
      · rw [hr] at e
        rw [e]
        exact ⟨none, rfl, hb, .inl ⟨by decide, rfl⟩⟩
      · rw [hr] at e
        rw [e]
        exact ⟨_, rfl, hb, .inr ⟨rfl, b, F, rfl, hl, hF⟩⟩
    · have e := layE_uneven (os := os) (qs := qsOf ea) (by omega) (by omega) (by omega)
      rw [e]
      refine (lay_uneven (by omega) (by omega) h2).mono ?_
      rintro e w' ⟨rfl, rfl⟩
      exact ⟨none, rfl, below_same _, .inl ⟨by decide, rfl⟩⟩
theorem rlay_all {w : World} {a1 a2 : Option Addr} {n1 n2 c1 c2 : Nat} {os : List Int} {ea : List Qe} (hR1 : Rd w a1 (iC os)) (hR2 : RdQ w a2 ea) (hN1 : os.length = n1) (hN2 : ea.length = n2) (hf2 : ∀ i, ∀ p ∈ qAt (qsOf ea) i, Fit64 p) (ht : total (qsOf ea) < 6000000000000) :
    Calls Try.prog 13 #[.slice a1 n1 c1, .slice a2 n2 c2] w fun e w' => ∃ P, e = .returned (.tuple #[.pointer P, .int .i64 (layE os (qsOf ea))]) ∧ Below w.heap.size w w' ∧ ((layE os (qsOf ea) ≠ 0 ∧ P = none) ∨ (layE os (qsOf ea) = 0 ∧ ∃ b F, P = some ⟨b, 0, none⟩ ∧ Rk w' b F os (qsOf ea) ∧ ∀ k, F k → w.heap.size ≤ k)) := by
  have hq : (qsOf ea).length = n2 := by rw [qsOf_len, hN2]
  by_cases h1 : 8 < n1 ∨ 8 < n2
  · have e := layE_many (os := os) (qs := qsOf ea) (by rw [hN1, hq]; exact h1)
    rw [e]
    refine (rlay_many h1).mono ?_
    rintro e w' ⟨rfl, rfl⟩
    exact ⟨none, rfl, below_same _, .inl ⟨by decide, rfl⟩⟩
  · by_cases h2 : n1 = n2
    · subst h2
      have e := layE_even (os := os) (qs := qsOf ea) (by omega) (by omega)
      refine (rlay_any hR1 hR2 (hd hN1) (hd hN2) (by omega) hf2 ht).mono ?_
      rintro e2 w' ⟨hb, ⟨hr, rfl⟩ | ⟨hr, b, F, rfl, hl, hF⟩⟩
      · rw [hr] at e
        rw [e]
        exact ⟨none, rfl, hb, .inl ⟨by decide, rfl⟩⟩
      · rw [hr] at e
        rw [e]
        exact ⟨_, rfl, hb, .inr ⟨rfl, b, F, rfl, hl, hF⟩⟩
    · have e := layE_uneven (os := os) (qs := qsOf ea) (by omega) (by omega) (by omega)
      rw [e]
      refine (rlay_uneven (by omega) (by omega) h2).mono ?_
      rintro e w' ⟨rfl, rfl⟩
      exact ⟨none, rfl, below_same _, .inl ⟨by decide, rfl⟩⟩
theorem total_take_le (qs : Qs) (i : Nat) : total (qs.take i) ≤ total qs := Nat.le_trans (Nat.le_add_right _ _) (total_take' qs i)
/-- How both stand: nothing was made, or both. -/
def LayRes (w : World) (B1 : Nat) (W3 : World) (os : List Int) (qs : Qs) (P1 P2 : Option Addr) : Prop := (P1 = none ∧ P2 = none) ∨ ∃ b1 b2, P1 = some ⟨b1, 0, none⟩ ∧ P2 = some ⟨b2, 0, none⟩ ∧ ∀ W, SpM w.heap.size B1 W3 W → Two w W b1 b2 os qs

set_option maxRecDepth 100000 in
set_option maxHeartbeats 1000000 in
theorem lay_long {w : World} {a0 a1 a2 : Option Addr} {n0 c0 n1 c1 n2 c2 : Nat} (h : 20 < n0 ∨ 20 < n1) :
    Calls Try.prog 5 #[.slice a0 n0 c0, .slice a1 n1 c1, .slice a2 n2 c2] w fun e w' => e = .returned (.bool true) ∧ Below w.heap.size w w' := by
  have hl := lay_many (w := w) (a1 := a0) (a2 := a1) (c1 := c0) (c2 := c1) (show 8 < n0 ∨ 8 < n1 by omega)
  have hfx := fixed_any (w := w)
  by_cases h1 : 20 < n0
  · clear h
    go_enter Try.func5, Try.ntmps5
    go_wp2_with (first
      | (go_at_call 11; refine hl.mono ?_; rintro e1 w1 ⟨rfl, rfl⟩)
      | (go_at_call 7; refine hfx.mono ?_; rintro e3 w3 ⟨rfl, b3⟩))
    go_ret
    exact ⟨rfl, b3⟩
  · have h2 : 20 < n1 := by omega
    have h1' : n0 ≤ 20 := by omega
    clear h h1
    go_enter Try.func5, Try.ntmps5
    go_wp2_with (first
      | (go_at_call 11; refine hl.mono ?_; rintro e1 w1 ⟨rfl, rfl⟩)
      | (go_at_call 7; refine hfx.mono ?_; rintro e3 w3 ⟨rfl, b3⟩))
    go_ret
    exact ⟨rfl, b3⟩

set_option maxRecDepth 100000 in
set_option maxHeartbeats 8000000 in
theorem lay_short {w : World} {a0 a1 a2 : Option Addr} {n0 c0 n1 c1 n2 c2 : Nat} {os : List Int} {ea : List Qe} {sc : List Op3} (h0 : n0 ≤ 20) (h1 : n1 ≤ 20) (hR0 : Rd w a0 (iC os)) (hR1 : RdQ w a1 ea) (hR2 : Rd w a2 (opC sc)) (hN0 : Hid (os.length = n0)) (hN1 : Hid (ea.length = n1)) (hN2 : Hid (sc.length = n2)) (hf0 : ∀ o ∈ os, Fit64 o) (hf1 : ∀ i, ∀ p ∈ qAt (qsOf ea) i, Fit64 p) (hf2 : ∀ x ∈ sc, Fit64 x.2.2) (hlq : ∀ i, (eAt ea i).2.2.length ≤ 100000000000000) (hlen : n2 < 5900000000000) :
    Calls Try.prog 5 #[.slice a0 n0 c0, .slice a1 n1 c1, .slice a2 n2 c2] w fun e w' => e = .returned (.bool true) ∧ Below w.heap.size w w' := by
  obtain ⟨qs, hqs⟩ : ∃ qs, Hid (qsOf ea = qs) := ⟨_, rfl⟩
  have HQA : Hid (∀ i, qAt qs i = (eAt ea i).2.2) := hd (fun i => by rw [← hqs.out, qAt_of])
  have HQL : Hid (qs.length = n1) := hd (by rw [← hqs.out, qsOf_len, hN1.out])
  have HR0 := hd hR0
  have HR1 := hd hR1
  have HR2 := hd hR2
  have HF0 := hd hf0
  have HF1 := hd hf1
  have HF2 := hd hf2
  have HLQ : Hid (∀ i, (qAt qs i).length ≤ 100000000000000) := hd (fun i => by rw [HQA.out i]; exact hlq i)
  have HCQ : Hid (∀ W, Below w.heap.size w W → ∀ i, i < n1 → (∃ g o, a1 = some ⟨g, o, none⟩ ∧ W.cell? ⟨g, o + i, none⟩ = some (.slice (eAt ea i).1 (qAt qs i).length (eAt ea i).2.1)) ∧ Rd W (eAt ea i).1 (iC (qAt qs i))) := hd (fun W hb i hi => by
    rw [HQA.out i]
    exact ⟨(HR1.out.below hb).at' i (by rw [hN1.out]; exact hi), (HR1.out.below hb).qs i (by rw [hN1.out]; exact hi)⟩)
  have HFX : Hid (∀ W, Below w.heap.size w W → Calls Try.prog 7 #[] W fun e w' => e = .returned (.bool true) ∧ Below w.heap.size w w') := hd (fun W hb => by
    refine (fixed_any (w := W)).mono ?_
    rintro e w' ⟨rfl, hb2⟩
    exact ⟨rfl, hb.trans (hb2.mono hb.size)⟩)
  clear hR0 hR1 hR2 hf0 hf1 hf2 hlq
  go_enter Try.func5, Try.ntmps5
  go_wp2_with fail
  go_loopg [9, 10, 44, 45, 46, 47, 48, 49, 50, 51, 52, 53, 54, 55, 56] n1 (fun k v9 v10 v44 v45 v46 v47 v48 v49 v50 v51 v52 v53 v54 v55 v56 wr => ∃ i s : Nat, i + k = n1 ∧ v10 = .int .i64 (i : Int) ∧ v9 = .int .i64 (s : Int) ∧ s ≤ i * 100000000000000 ∧ wr = w ∧ Hid (s = total (qs.take i)))
  case atStart => exact ⟨0, 0, by omega, by go_num, by go_num, by omega, rfl, hd (by simp [total])⟩
  case round =>
    obtain ⟨i, s, hik, rfl, rfl, hs, rfl, HS⟩ := hrel
    by_cases hz : gk = 0
    · subst hz
      have hi : i = n1 := by omega
      subst hi
      have HST : Hid (s = total qs) := hd (by rw [HS.out, List.take_of_length_le (by rw [HQL.out]; omega)])
      clear HS hik
      by_cases hbig : 1048576 < s
      · have hfx := HFX.out wr (below_same wr)
        clear HST HQA HQL HR0 HR1 HR2 HF0 HF1 HF2 HLQ HCQ HFX
        go_wp2_with (first | (go_at_call 7; refine hfx.mono ?_; rintro e3 w3 ⟨rfl, b3⟩))
        go_ret
        exact ⟨rfl, b3⟩
      · have hsm : s ≤ 1048576 := by omega
        have HTT : Hid (total qs ≤ 1048576) := hd (by rw [← HST.out]; exact hsm)
        obtain ⟨w, rfl⟩ : ∃ W, W = wr := ⟨_, rfl⟩
        have hro := room_any (c := c0) HR0.out hN0 (by omega)
        clear HST hbig
        go_upto_region 12 with (first | (go_at_call 12; refine hro.mono ?_; rintro e3 w3 ⟨ao, co, rfl, r1, r2, r3⟩))
        have HB0 := hd (LyB.start r1 r2 r3)
        clear hro r1 r2 r3
        obtain ⟨w4, hw4⟩ : ∃ W, Hid (w3.alloc (.cells #[] 33) = W) := ⟨_, rfl⟩
        go_upto_region 13 with fail
        rw [hw4.out] at HB0 ⊢
        obtain ⟨G, hG⟩ : ∃ G, Hid (w3.heap.size = G) := ⟨_, rfl⟩
        rw [hG.out] at HB0 ⊢
        clear hw4 hG
        go_wp2_with fail
        go_loopg [12, 13, 63, 64, 65, 66, 67, 68, 69, 70, 71, 72, 73, 74, 75, 76] i (fun k v12 v13 v63 v64 v65 v66 v67 v68 v69 v70 v71 v72 v73 v74 v75 v76 wr => ∃ (j cq : Nat) (aq : Option Addr), j + k = i ∧ v13 = .int .i64 (j : Int) ∧ v12 = .slice aq j cq ∧ Hid (∃ es, LyB w wr n0 ao co aq cq os es ∧ es.length = j ∧ qsOf es = qs.take j))
        case atStart => exact ⟨0, 0, _, by omega, by go_num, rfl, hd ⟨[], HB0.out, rfl, rfl⟩⟩
        case round =>
          obtain ⟨j, cq, aq, hjk, rfl, rfl, HX⟩ := hrel
          clear HB0
          obtain ⟨es, hB, hel, hqe⟩ := HX.out
          by_cases hz : gk = 0
          · subst hz
            have hj : j = i := by omega
            subst hj
            rw [List.take_of_length_le (by rw [HQL.out]; omega)] at hqe
            have HB := hd hB
            have HEL := hd hel
            have HQE := hd hqe
            clear HX hB hel hqe hjk
            have hla := lay_all (c1 := co) (c2 := cq) HB.out.rd.1 HB.out.rd.2 hN0.out HEL.out HF0.out (fun i p hp => HF1.out i p (by rw [hqs.out]; rw [HQE.out] at hp; exact hp)) (by rw [HQE.out]; have := HTT.out; omega)
            rw [HQE.out] at hla
            have HRL : Hid (∀ W, Below w.heap.size w W → Calls Try.prog 13 #[.slice a0 n0 c0, .slice a1 j c1] W fun e w' => ∃ P, e = .returned (.tuple #[.pointer P, .int .i64 (layE os qs)]) ∧ Below W.heap.size W w' ∧ ((layE os qs ≠ 0 ∧ P = none) ∨ (layE os qs = 0 ∧ ∃ b F, P = some ⟨b, 0, none⟩ ∧ Rk w' b F os qs ∧ ∀ k, F k → W.heap.size ≤ k))) := hd (fun W hb => by
              have := rlay_all (c1 := c0) (c2 := c1) (HR0.out.below hb) (HR1.out.below hb) hN0.out hN1.out HF1.out (by rw [hqs.out]; have := HTT.out; omega)
              rw [hqs.out] at this
              exact this)
            obtain ⟨E, hE⟩ : ∃ E, Hid (layE os qs = E) := ⟨_, rfl⟩
            rw [hE.out] at hla HRL
            obtain ⟨wb, rfl⟩ : ∃ W, W = wr := ⟨_, rfl⟩
            go_upto_region 18 with (first | (go_at_call 11; refine hla.mono ?_; rintro e5 w5 ⟨P1, rfl, b5, hp5⟩))
            have hb5 := HB.out.bel.trans (b5.mono HB.out.bel.size)
            have hrl := HRL.out w5 hb5
            have HP5 := hd hp5
            have B5 := hd b5
            clear hla hp5 b5
            go_upto_region 19 with (first | (go_at_call 13; refine hrl.mono ?_; rintro e6 w6 ⟨P2, rfl, b6, hp6⟩))
            have hb6 : Below wb.heap.size wb w6 := B5.out.trans (b6.mono B5.out.size)
            have HRES : Hid (LayRes w wb.heap.size w6 os qs P1 P2) := hd (by
              rcases HP5.out with ⟨e1, rfl⟩ | ⟨e1, bb1, F1, rfl, l1, f1⟩
              · rcases hp6 with ⟨e2, rfl⟩ | ⟨e2, _⟩
                · exact .inl ⟨rfl, rfl⟩
                · exact absurd e2 e1
              · rcases hp6 with ⟨e2, rfl⟩ | ⟨e2, bb2, F2, rfl, l2, f2⟩
                · exact absurd e1 e2
                · refine .inr ⟨bb1, bb2, rfl, rfl, fun W hW => ?_⟩
                  have hbw := HB.out.bel
                  have hF2 : ∀ k, F2 k → wb.heap.size ≤ k := fun k hk => Nat.le_trans B5.out.size (f2 k hk)
                  have hbl6 := hbw.trans (hb6.mono hbw.size)
                  refine ⟨F1, F2, (l1.below b6).mod hW (fun k hk e => by have := f1 k hk; omega), l2.mod hW (fun k hk e => by have := hF2 k hk; omega), fun k hk1 hk2 => by have := l1.lt k hk1; have := f2 k hk2; omega, fun k hk => ?_, hbl6.trans (Mod.below hW hbl6.size (fun k _ hk => hk.1))⟩
                  rcases hk with hk | hk
                  · exact Nat.le_trans hbw.size (f1 k hk)
                  · exact Nat.le_trans hbw.size (hF2 k hk))
            have HLI : Hid (∀ W, Below w6.heap.size w6 W → LyI w.heap.size wb.heap.size W W n0 j 0 ao co aq cq es qs ∧ LyB w W n0 ao co aq cq os es) := hd (fun W hb => ⟨HB.out.toI (hb6.trans (hb.mono hb6.size)) HEL.out HQE.out hN0.out, HB.out.below (hb6.trans (hb.mono hb6.size))⟩)
            have hke := kept_any (c2 := c0) (HLI.out w6 (below_same _)).2.own (HR0.out.below (HB.out.bel.trans (hb6.mono HB.out.bel.size))) hN0 (by omega)
            have HSZ : Hid (w.heap.size ≤ wb.heap.size) := hd HB.out.bel.size
            have HB6 : Hid (Below w.heap.size w w6) := hd (HB.out.bel.trans (hb6.mono HB.out.bel.size))
            obtain ⟨B0, hB0⟩ : ∃ B0, Hid (w.heap.size = B0) := ⟨_, rfl⟩
            obtain ⟨B1, hB1⟩ : ∃ B1, Hid (wb.heap.size = B1) := ⟨_, rfl⟩
            clear hrl b6 hp6 HP5 B5 hb6 HRL hE HB hb5
            go_cut [89, 90, 91, 92, 93, 94, 95, 96, 97, 98, 99, 100, 101, 102, 103, 104] (fun v89 v90 v91 v92 v93 v94 v95 v96 v97 v98 v99 v100 v101 v102 v103 v104 wy => v104 = .bool false ∧ Hid (Below w6.heap.size w6 wy))
            case first =>
              rcases HRES.out with ⟨rfl, rfl⟩ | ⟨bb1, bb2, rfl, rfl, -⟩
              · go_wp2_with (first | (go_at_call 14; refine hke.mono ?_; rintro e7 w7 ⟨rfl, b7⟩))
                go_meet
                case rel => exact ⟨by trivial, hd b7⟩
              · go_wp2_with (first | (go_at_call 14; refine hke.mono ?_; rintro e7 w7 ⟨rfl, b7⟩))
                go_meet
                case rel => exact ⟨by trivial, hd b7⟩
            case rest =>
              obtain ⟨rfl, hbc⟩ := hcut
              have HL0 := hd (HLI.out wc hbc.out).1
              have HRES2 : Hid (LayRes w wb.heap.size wc os qs P1 P2) := hd (by
                rcases HRES.out with h | ⟨bb1, bb2, e1, e2, h⟩
                · exact .inl h
                · exact .inr ⟨bb1, bb2, e1, e2, fun W hW => h W (Mod.trans (Mod.of_below _ hbc.out) hW (fun k hk => .inl hk))⟩)
              have HBC : Hid (Below w.heap.size w wc) := hd (HB6.out.trans (hbc.out.mono HB6.out.size))
              rw [hB0.out, hB1.out] at HL0
              have HTW : Hid (∀ W, SpM B0 B1 wc W → ((P1 = none ∧ P2 = none) ∨ ∃ b1 b2, P1 = some ⟨b1, 0, none⟩ ∧ P2 = some ⟨b2, 0, none⟩ ∧ Two w W b1 b2 os qs) ∧ Below w.heap.size w W) := hd (fun W hW => by
                rw [← hB0.out, ← hB1.out] at hW
                refine ⟨?_, HBC.out.trans (Mod.below hW HBC.out.size (fun k _ hk => hk.1))⟩
                rcases HRES2.out with h | ⟨bb1, bb2, e1, e2, h⟩
                · exact .inl h
                · exact .inr ⟨bb1, bb2, e1, e2, h W hW⟩)
              have HBB : Hid (∀ W, SpM B0 B1 wc W → Below w.heap.size w W) := hd (fun W hW => (HTW.out W hW).2)
              clear hke HLI HRES HRES2 hbc HB6 HBC HSZ HEL HQE
              go_wp2_with fail
              go_loopg [18, 19, 105, 106, 107, 108, 109, 110, 111, 112, 113, 114, 115, 116, 117, 118, 119, 120, 121, 122, 123, 124, 125, 126, 127, 128, 129, 130, 131, 132, 133, 134, 135, 136, 137, 138] j (fun k v18 v19 v105 v106 v107 v108 v109 v110 v111 v112 v113 v114 v115 v116 v117 v118 v119 v120 v121 v122 v123 v124 v125 v126 v127 v128 v129 v130 v131 v132 v133 v134 v135 v136 v137 v138 wr => ∃ t : Nat, t + k = j ∧ v18 = .int .i64 (t : Int) ∧ Hid (∃ es, LyI B0 B1 wc wr n0 j t ao co aq cq es qs))
              case atStart => exact ⟨0, by omega, by go_num, hd ⟨es, HL0.out⟩⟩
              case round =>
                obtain ⟨t, htk, rfl, HX⟩ := hrel
                clear HL0
                obtain ⟨es', hI⟩ := HX.out
                by_cases hz : gk = 0
                · subst hz
                  have ht : t = j := by omega
                  subst ht
                  have HOB : Hid (∀ k, blk ao = some k → B0 ≤ k ∧ k < B1) := hd (fun k hk => ⟨(hI.ob k hk).1, (hI.ob k hk).2.1⟩)
                  have HS3 : Hid (SpM B0 B1 wc wr ∧ ∃ lo, Row wr 3 1 ao n0 co (iC lo)) := hd ⟨hI.mod, hI.own⟩
                  clear HX hI htk HCQ HLQ
                  go_wp2_with fail
                  go_loopg [20, 139, 140, 141, 142, 143, 144, 145, 146, 147] n0 (fun k v20 v139 v140 v141 v142 v143 v144 v145 v146 v147 wr => ∃ m : Nat, m + k = n0 ∧ v20 = .int .i64 (m : Int) ∧ Hid (SpM B0 B1 wc wr ∧ ∃ lo, Row wr 3 1 ao n0 co (iC lo)))
                  case atStart => exact ⟨0, by omega, by go_num, HS3⟩
                  case round =>
                    obtain ⟨m, hmk, rfl, HX⟩ := hrel
                    clear HS3
                    obtain ⟨hM, lo, hR⟩ := HX.out
                    by_cases hz : gk = 0
                    · subst hz
                      have hm : m = n0 := by omega
                      subst hm
                      obtain ⟨htw, hbw⟩ := HTW.out wr hM
                      clear HX hM hR hmk HOB HTW HBB
                      rcases htw with ⟨rfl, rfl⟩ | ⟨bb1, bb2, rfl, rfl, hTwo⟩
                      · have hfx := HFX.out wr hbw
                        clear HFX HQA HQL HR0 HR1 HR2 HF0 HF1 HF2
                        go_wp2_with (first | (go_at_call 7; refine hfx.mono ?_; rintro e8 w8 ⟨rfl, b8⟩))
                        go_ret
                        exact ⟨rfl, b8⟩
                      · have hpl := played_any (c := c2) hTwo HR2.out hN2 HF2.out (by have := HTT.out; omega)
                        clear hTwo HQA HQL HR0 HR1 HR2 HF0 HF1 HF2
                        go_wp2_with (first
                          | (go_at_call 10; refine hpl.mono ?_; rintro e7 w7 ⟨rfl, b7⟩
                             have hfx := HFX.out w7 b7)
                          | (go_at_call 7; refine hfx.mono ?_; rintro e8 w8 ⟨rfl, b8⟩))
                        go_ret
                        exact ⟨rfl, b8⟩
                    · have hlt : m < n0 := by omega
                      obtain ⟨go, rfl, z0⟩ := hR.cell m (by omega)
                      have z0' : ∃ u, wr.cell? ⟨go, m, none⟩ = some u := by
                        have hl := hR.len
                        rw [iC_len] at hl
                        rw [z0, iC_at lo m (by omega) 0]
                        exact ⟨_, rfl⟩
                      obtain ⟨u, xu⟩ := z0'
                      have xf := hR.free m go rfl
                      have HE : Hid (SpM B0 B1 wc (wr.setCell ⟨go, m, none⟩ (.int .i64 3)) ∧ ∃ lo, Row (wr.setCell ⟨go, m, none⟩ (.int .i64 3)) 3 1 (some ⟨go, 0, none⟩) n0 co (iC lo)) := hd ⟨Mod.setCell hM (.inl (HOB.out go rfl)) _, lo.set m 3, by rw [← iC_set]; exact hR.put m _⟩
                      clear HX hM hR z0 hz HTW HBB HFX HQA HQL HR0 HR1 HR2 HF0 HF1 HF2
                      go_wp2_with fail
                      go_roundg (gk - 1)
                      case rel => exact ⟨m + 1, by omega, by go_num, HE⟩
                      case measure => omega
                · have hlt : t < j := by omega
                  have htl : t < es'.length := by rw [hI.len]; exact hlt
                  obtain ⟨gq, rfl, x1, xf⟩ := hI.ql.cell t htl
                  rw [hI.same t (Nat.le_refl _)] at x1
                  have hdw : Below wr.heap.size wr wr.drew := (Below.refl _ wr).drew
                  have hbw := HBB.out wr hI.mod
                  have hbwd := hbw.trans (hdw.mono hbw.size)
                  obtain ⟨⟨g1, o1, rfl, x2⟩, hrd⟩ := HCQ.out wr.drew hbwd t hlt
                  obtain ⟨ln, hLN⟩ : ∃ ln, Hid ((qAt qs t).length = ln) := ⟨_, rfl⟩
                  have hlnb : ln ≤ 1100000 := by rw [← hLN.out]; exact Nat.le_trans (total_le t) (Nat.le_trans HTT.out (by omega))
                  have hmk := (hI.mks t (Nat.le_refl _) hlt).below hdw
                  rw [hLN.out] at hmk x1 x2
                  have hke := kept_any (c2 := (eAt ea t).2.1) hmk hrd hLN hlnb
                  obtain ⟨A, hA⟩ : ∃ A, Hid ((eAt es' t).1 = A) := ⟨_, rfl⟩
                  obtain ⟨C, hC⟩ : ∃ C, Hid ((eAt es' t).2.1 = C) := ⟨_, rfl⟩
                  rw [hA.out, hC.out] at x1 hke
                  have x2' : wr.cell? ⟨g1, o1 + t, none⟩ = some (.slice (eAt ea t).1 ln (eAt ea t).2.1) := x2
                  have HAB : Hid (∀ k, blk A = some k → (B0 ≤ k ∧ k < B1) ∧ ¬ qfp (t + 1) (some ⟨gq, 0, none⟩) es' k ∧ blk ao ≠ some k) := hd (fun k hk => by
                    have hkq : qfp t (some ⟨gq, 0, none⟩) es' k := .inr ⟨t, Nat.le_refl _, htl, by rw [hA.out]; exact hk⟩
                    refine ⟨hI.qb k hkq, fun e => ?_, fun e => (hI.ob k e).2.2 hkq⟩
                    rcases e with e | ⟨l, l1, l2, e⟩
                    · exact (hI.ql.qb t (Nat.le_refl _) htl k (by rw [hA.out]; exact hk)).2 e
                    · exact hI.ql.qq t l (Nat.le_refl _) (by omega) htl l2 (by omega) k (by rw [hA.out]; exact hk) e)
                  have HIN : Hid (∀ W, Below wr.drew.heap.size wr.drew W → W.cell? ⟨gq, t, none⟩ = some (.slice A ln C) ∧ W.cell? ⟨g1, o1 + t, none⟩ = some (.slice (eAt ea t).1 ln (eAt ea t).2.1) ∧ LyI B0 B1 wc W n0 j (t + 1) ao co (some ⟨gq, 0, none⟩) cq es' qs ∧ ∃ qq, Ro W 3 A ln C (iC qq)) := hd (fun W hb => by
                    have hb2 : Below wr.heap.size wr W := hdw.trans hb
                    have hq := (hI.ql.qs t (Nat.le_refl _) htl).below hb2
                    unfold Qw at hq
                    rw [hI.same t (Nat.le_refl _), hLN.out, hA.out, hC.out] at hq
                    exact ⟨(hb2.cell (p := ⟨gq, t, none⟩) (World.block_lt_of_cell? wr _ x1)).trans x1, (hb.cell (p := ⟨g1, o1 + t, none⟩) (World.block_lt_of_cell? wr.drew _ x2)).trans x2, (hI.next).below hb2, _, hq⟩)
                  have HHD : Hid (∀ W es'', LyI B0 B1 wc W n0 j (t + 1) ao co (some ⟨gq, 0, none⟩) cq es'' qs → es'' = es' → W.cell? ⟨gq, t, none⟩ = some (.slice A ln C) ∧ W.frozen? ⟨gq, t, none⟩ = false) := hd (fun W es'' h e => by
                    subst e
                    obtain ⟨g', eg, y1, y2⟩ := h.ql.cell t htl
                    cases eg
                    rw [hA.out, hC.out, hI.same t (Nat.le_refl _), hLN.out] at y1
                    exact ⟨y1, y2⟩)
                  obtain ⟨wo, rfl⟩ : ∃ W, W = wr := ⟨_, rfl⟩
                  clear HX hI htl hdw hbw hbwd hrd hmk hA hC hz HTW HFX HCQ HR0 HR1 HR2 HF0 HF1 HF2 HBB HLQ x2
                  go_upto_region 24 with fail
                  go_region_held3 (fun w' => w'.cell? ⟨gq, t, none⟩ = some (.slice A ln C) ∧ w'.cell? ⟨g1, o1 + t, none⟩ = some (.slice (eAt ea t).1 ln (eAt ea t).2.1)) (go_keep)
                    (first
                      | (go_at_call 14; refine hke.mono ?_; rintro e7 w7 ⟨rfl, b7⟩
                         obtain ⟨k1, k2, k3⟩ := HIN.out w7 b7
                         replace k3 := hd k3
                         clear b7))
                  clear HIN hke x1 x2' xf
                  go_wp2_with fail
                  go_loopg [19, 121, 122, 123, 124, 125, 126, 127, 128, 129, 130, 131, 132, 133, 134, 135] ln (fun k v19 v121 v122 v123 v124 v125 v126 v127 v128 v129 v130 v131 v132 v133 v134 v135 wr => ∃ m : Nat, m + k = ln ∧ v19 = .int .i64 (m : Int) ∧ Hid (LyI B0 B1 wc wr n0 j (t + 1) ao co (some ⟨gq, 0, none⟩) cq es' qs ∧ ∃ qq, Ro wr 3 A ln C (iC qq)))
                  case atStart => exact ⟨0, by omega, by go_num, k3⟩
                  case round =>
                    obtain ⟨m, hmk, rfl, HX⟩ := hrel
                    clear k3 k1 k2
                    obtain ⟨hI, qq, hq⟩ := HX.out
                    obtain ⟨y1, y2⟩ := HHD.out wr es' hI rfl
                    by_cases hm0 : m < ln
                    · have hql : qq.length = ln := by have := hq.len; rw [iC_len] at this; omega
                      obtain ⟨gx, ox, rfl, cx⟩ := hq.rd.int m (by rw [hql]; exact hm0)
                      have xf2 := hq.free (ox + m)
                      have HE : Hid (LyI B0 B1 wc (wr.setCell ⟨gx, ox + m, none⟩ (.int .i64 3)) n0 j (t + 1) ao co (some ⟨gq, 0, none⟩) cq es' qs ∧ ∃ qq, Ro (wr.setCell ⟨gx, ox + m, none⟩ (.int .i64 3)) 3 (some ⟨gx, ox, none⟩) ln C (iC qq)) := hd (by
                        have hmm : Mod (fun k => k = gx) wr (wr.setCell ⟨gx, ox + m, none⟩ (.int .i64 3)) := (Mod.refl (fun k => k = gx) wr).setCell (.inl rfl) _
                        exact ⟨hI.mod' hmm (fun k hk => by rw [hk]; exact (HAB.out gx rfl).1) (fun k hk => by rw [hk]; exact (HAB.out gx rfl).2), qq.set m 3, by rw [← iC_set]; exact hq.put m _⟩)
                      generalize qq.getD m 0 = xv at cx
                      clear HX hI hq hql HHD HAB y2
                      go_wp2_with fail
                      go_roundg (gk - 1)
                      case rel => exact ⟨m + 1, by omega, by go_num, HE⟩
                      case measure => omega
                    · have hml : m = ln := by omega
                      subst hml
                      have HE : Hid (∃ es, LyI B0 B1 wc (wr.setCell ⟨gq, t, none⟩ (.slice none 0 0)) n0 j (t + 1) ao co (some ⟨gq, 0, none⟩) cq es qs) := hd ⟨_, hI.drop hlt (none, 0, [])⟩
                      clear HX hI hq HHD HAB hm0
                      go_wp2_with fail
                      go_roundg (j - (t + 1))
                      case rel => exact ⟨t + 1, by omega, by go_num, HE⟩
                      case measure => omega
          · have hlt : j < i := by omega
            obtain ⟨⟨g, o, rfl, x1⟩, hrd⟩ := HCQ.out wr hB.bel j hlt
            obtain ⟨ln, hLN⟩ : ∃ ln, Hid ((qAt qs j).length = ln) := ⟨_, rfl⟩
            have hro := room_any (c := (eAt ea j).2.1) hrd hLN (by rw [← hLN.out]; exact Nat.le_trans (total_le j) (Nat.le_trans HTT.out (by omega)))
            rw [hLN.out] at x1
            have HPU : Hid (∀ w1 a' c', Row w1 3 1 a' (ln + 2) c' (iC (qAt qs j ++ [-77, -78])) → Below wr.heap.size wr w1 → (∀ k, blk a' = some k → wr.heap.size ≤ k) → ∃ aq' cq' w2, (∀ ty, (Builtin.append_ #[34, 34] ty #[.slice aq j cq, .slice (some ⟨w1.heap.size, 0, none⟩) 1 1]).run Try.prog (w1.alloc (.cells #[.slice a' ln c'] 33)) = .ok (.slice aq' (j + 1) cq') w2) ∧ ∃ es, LyB w w2 n0 ao co aq' cq' os es ∧ es.length = j + 1 ∧ qsOf es = qs.take (j + 1)) := hd (fun w1 a' c' r1 r2 r3 => by
              obtain ⟨aq', cq', w2, m1, m2⟩ := hB.push (by omega) r2 hLN.out r1 r3
              rw [hel] at m1
              exact ⟨aq', cq', w2, m1, _, m2, by simp [hel], by rw [qsOf_app, hqe, take_qAt (by rw [HQL.out]; exact hlt)]; rfl⟩)
            clear HX hB hel hqe hrd hz
            go_wp2_with (first
              | (go_at_call 12; refine hro.mono ?_; rintro e5 w5 ⟨a', c', rfl, r1, r2, r3⟩
                 obtain ⟨aq', cq', w6, hap, hes⟩ := HPU.out w5 a' c' r1 r2 r3
                 replace hap := hd hap
                 replace hes := hd hes
                 clear r1 r2 r3)
              | (at_builtin; refine wpList_append_run rfl _ _ _ rfl _ _ _ _ rfl rfl hap.out ?_; clear hap))
            go_roundg (gk - 1)
            case rel => exact ⟨j + 1, cq', aq', by omega, by go_num, rfl, hes⟩
            case measure => omega
    · have hlt : i < n1 := by omega
      obtain ⟨⟨g, o, rfl, x1⟩, -⟩ := HCQ.out wr (below_same wr) i hlt
      obtain ⟨ln, hLN⟩ : ∃ ln, Hid ((qAt qs i).length = ln) := ⟨_, rfl⟩
      have hln := HLQ.out i
      rw [hLN.out] at x1 hln
      have HS2 : Hid (s + ln = total (qs.take (i + 1))) := hd (by rw [take_qAt (by rw [HQL.out]; exact hlt), total_app, ← HS.out, hLN.out])
      have hs20 : s ≤ 2000000000000000 := by omega
      have hsl : s + ln ≤ (i + 1) * 100000000000000 := by omega
      clear HS hz
      go_wp2_with fail
      go_roundg (gk - 1)
      case rel => exact ⟨i + 1, s + ln, by omega, by go_num, by go_num, hsl, rfl, HS2⟩
      case measure => omega
end Go.Proofs.Ytdihbbpndijdoaa
