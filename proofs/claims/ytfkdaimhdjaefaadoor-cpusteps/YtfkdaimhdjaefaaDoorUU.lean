/- CpuSteps, of short code. -/
import Derived.Test.YtfkdaimhdjaefaaDoorUS
namespace Go.Proofs.YtfkdaimhdjaefaaDoor
open Go.RowKit

set_option maxRecDepth 100000 in
set_option maxHeartbeats 8000000 in
theorem cpuSteps_short (cI : Core) (hg : GoodC cI) (ad : Option Addr) (l : List Ins) (cap : Nat) (tick self reply frm : Int) (hl : ∀ x ∈ l, Alu.Fits x.imm) (ht : Alu.Fits tick) (hs : Alu.Fits self) (w : World) (hP : Prg w ad l) (hF : Fld w) (hlen : l.length ≤ 65536) :
    Calls Tryd.prog 4 #[coreV cI, .slice ad l.length cap, .int .i64 tick, .int .i64 self, .int .i64 reply, .int .i64 frm] w fun e w' => e = .returned (.bool true) ∧ Below w.heap.size w w' := by
  have hb0 := below_al' w (.cells (coreA cI) 25)
  have haw := awake_any _ (hF.kept hb0)
  have HX6 := hd (Box.new w 25 (coreA cI))
  have HB := hd hb0
  have HP := hd hP
  have HF := hd hF
  have HG := hd hg
  have HLf := hd hl
  have HTk := hd ht
  have HSf := hd hs
  clear hP hF hg hl ht hs hb0
  have dl : (l.length : Int) ≤ 65536 := by omega
  have dl' : decide ((65536 : Int) < (l.length : Int)) = false := decide_eq_false (by omega)
  have HN := hd hlen
  clear hlen
  unfold coreV
  unfold coreA at haw ⊢
  go_enter Tryd.func4, Tryd.ntmps4
  go_upto_region 3 with (go_at_call 6; refine haw.mono ?_; rintro e w1 ⟨rfl, b1⟩)
  clear haw
  replace HB := hd (HB.out.trans (b1.mono HB.out.size))
  replace HX6 := hd (HX6.out.bel b1)
  have hsz : w.heap.size + 1 ≤ w1.heap.size := by have := b1.size; simp at this; omega
  clear b1
  obtain ⟨v1, a2, oc2, v2, a3, oc3, v3, hmk, m1, m2, hR, hB3, hN3⟩ := own_runs (HP.out.kept HB.out) cap HN.out
  have HC0 : Hid (Cop w v3 a3 oc3 l) := hd ⟨hR, fun k hk => by have := hN3 k hk; omega⟩
  obtain ⟨g, rfl, _⟩ := HC0.out.mark
  have hcap := hR.capLe
  have hcI : (l.length : Int) ≤ (oc3 : Int) := by omega
  have hcI1 : (l.length : Int) + 1 ≤ (oc3 : Int) := by omega
  have A1 := hd m1
  have A2 := hd m2
  have HB3 := hd hB3
  obtain ⟨G, hG⟩ : ∃ G, Hid (w1.heap.size = G) := ⟨_, rfl⟩
  rw [hG.out] at hmk A1
  clear m1 m2 hR hB3 hN3 hsz hcap hG
  go_upto_region 6 with (first
    | (at_builtin; refine wpList_append_run rfl _ _ _ rfl _ _ _ _ rfl rfl A1.out ?_; clear A1)
    | (at_builtin; refine wpList_append_run rfl _ _ _ rfl _ _ _ _ rfl rfl A2.out ?_; clear A2))
  clear hmk
  obtain ⟨X, hX⟩ : ∃ X : World → Prop, Hid ((fun W => Cop w W (some ⟨g, 0, none⟩) oc3 l) = X) := ⟨_, rfl⟩
  have HXS : Hid (Stable w X) := hd (by rw [← hX.out]; exact ⟨fun _ _ h hb => h.bel hb, fun _ _ h ho => h.oth ho⟩)
  have HL : Hid (Lp w v3 cI X) := hd ⟨HX6.out.bel HB3.out, HB.out.trans (HB3.out.mono HB.out.size), by rw [← hX.out]; exact HC0.out⟩
  have HOw : Hid (∀ W, Below w.heap.size w W → X W → Prg W (some ⟨g, 0, none⟩) l) := hd (fun W _ h => by rw [← hX.out] at h; exact h.prg)
  clear HX6 HB HB3 HC0
  go_upto_block 0 with fail
  go_cut [14] from 15 to 109 (fun _ wy => Hid (∃ cc, Lp w wy cc X))
  case first =>
    go_wp2_with fail
    go_loopg [14] 300 (fun gk v14 wr => ∃ (n : Nat) (cc : Core), n + gk = 300 ∧ v14 = .int .i64 n ∧ Hid (GoodC cc) ∧ Hid (Lp w wr cc X))
    case atStart => exact ⟨0, cI, rfl, rfl, HG, HL⟩
    case round =>
      obtain ⟨n, c, hn, rfl, HG, HL⟩ := hrel
      by_cases hlt : n < 300
      · have hlt' : (n : Int) < 300 := by omega
        have HD := hd (step_good HG.out HLf.out HTk.out HSf.out)
        have hst := fun W (h : Lp w W c X) => step_any c (some ⟨g, 0, none⟩) l oc3 tick self W (HOw.out W h.bel h.ex) (HF.out.kept h.bel)
        have hrs := fun W (hb : Below w.heap.size w W) => rstep_any c HG.out ad l cap tick self W (HP.out.kept hb) (HF.out.kept hb)
        have hou := ours_any c
        have hrt := fun W (hb : Below w.heap.size w W) => rtold_any c ad l cap reply W (HP.out.kept hb)
        have hrk := fun W (hb : Below w.heap.size w W) => rtook_any c ad l cap reply frm W (HP.out.kept hb)
        have hto := fun W (h : Lp w W c X) => told_any c (some ⟨g, 0, none⟩) l oc3 reply W (HOw.out W h.bel h.ex)
        have hko := fun W (h : Lp w W c X) => took_any c (some ⟨g, 0, none⟩) l oc3 reply frm W (HOw.out W h.bel h.ex)
        have hnx := next_any c
        have hrn := rnext_any c
        obtain ⟨D, hD⟩ : ∃ D, Hid ((stepL c l tick self).1 = D) := ⟨_, rfl⟩
        obtain ⟨q, u, v, hK⟩ : ∃ q u v, Hid ((stepL c l tick self).2 = (q, u, v)) := ⟨_, _, _, rfl⟩
        obtain ⟨TT, hTT⟩ : ∃ D, Hid (toldL c l reply = D) := ⟨_, rfl⟩
        obtain ⟨KK, hKK⟩ : ∃ D, Hid (tookL c l reply frm = D) := ⟨_, rfl⟩
        obtain ⟨NN, hNN⟩ : ∃ D, Hid (c.next = D) := ⟨_, rfl⟩
        rw [hD.out] at HD
        rw [hD.out, hK.out] at hst hrs
        rw [hTT.out] at hrt hto
        rw [hKK.out] at hrk hko
        rw [hNN.out] at hnx hrn
        clear hD hK hTT hKK hNN
        have hsm := same_any D q u v
        have hoT := ours_any TT
        have hoK := ours_any KK
        have hoN := ours_any NN
        unfold wantT at hst hrs
        simp only at hst hrs
        unfold wantV at *
        unfold coreV at *
        have HST := hd hst
        have HRS := hd hrs
        have HRT := hd hrt
        have HRK := hd hrk
        have HOU := hd hou
        have HTO := hd hto
        have HKO := hd hko
        have HNX := hd hnx
        have HRN := hd hrn
        have HSM := hd hsm
        have HOT := hd hoT
        have HOK := hd hoK
        have HON := hd hoN
        clear hst hrs hrt hrk hou hto hko hnx hrn hsm hoT hoK hoN
        -- the program's step
        obtain ⟨c0, c1, c2, c3, c4, c5, c6, c7, c8⟩ := HL.out.x6.cs
        have hs1 := HST.out wr HL.out
        unfold coreA wantA at hs1
        go_upto_region 10 with (go_at_call 7; refine hs1.mono ?_; rintro e w1 ⟨rfl, b1⟩)
        have B1 := b1.trans ((two_bel w1 (.cells (coreA D) 25) (.cells (wantA q u v) 30)).mono b1.size)
        have HL1 := hd (HL.out.kept HXS.out B1)
        have X15 := hd ((Box.new w1 25 (coreA D)).bel (below_al' _ (.cells (wantA q u v) 30)))
        have X16 := hd (Box.next (w := w1) (.cells (coreA D) 25) 30 (wantA q u v))
        clear b1 B1 hs1 c0 c1 c2 c3 c4 c5 c6 c7 c8 HL HST
        obtain ⟨g1, hg1⟩ : ∃ g, Hid (w1.heap.size = g) := ⟨_, rfl⟩
        obtain ⟨W1, hW1⟩ : ∃ W, Hid ((w1.alloc (.cells (coreA D) 25)).alloc (.cells (wantA q u v) 30) = W) := ⟨_, rfl⟩
        rw [hW1.out] at HL1 X15 X16
        rw [hg1.out] at X15 X16 ⊢
        unfold coreA wantA at hW1
        rw [hW1.out]
        clear hW1 hg1
        -- the document's step
        obtain ⟨c0, c1, c2, c3, c4, c5, c6, c7, c8⟩ := HL1.out.x6.cs
        have ho1 := HOU.out W1
        unfold coreA at ho1
        go_upto_region 11 with (first
          | (go_at_call 9; refine ho1.mono ?_; rintro e w2 ⟨rfl, b2⟩; have HL2 := hd (HL1.out.kept HXS.out b2); have hs2 := HRS.out w2 HL2.out.bel; unfold coreA wantA at hs2)
          | (go_at_call 8; refine hs2.mono ?_; rintro e w3 ⟨rfl, b3⟩))
        have B2 := b2.trans ((b3.trans ((two_bel w3 (.cells (coreA D) 33) (.cells (wantA q u v) 34)).mono b3.size)).mono b2.size)
        have HL3 := hd (HL1.out.kept HXS.out B2)
        replace X15 := hd (X15.out.bel B2)
        replace X16 := hd (X16.out.bel B2)
        have X17 := hd ((Box.new w3 33 (coreA D)).bel (below_al' _ (.cells (wantA q u v) 34)))
        have X18 := hd (Box.next (w := w3) (.cells (coreA D) 33) 34 (wantA q u v))
        clear b2 b3 B2 hs2 ho1 HL1 HL2 HRS c0 c1 c2 c3 c4 c5 c6 c7 c8
        obtain ⟨g2, hg2⟩ : ∃ g, Hid (w3.heap.size = g) := ⟨_, rfl⟩
        obtain ⟨W3, hW3⟩ : ∃ W, Hid ((w3.alloc (.cells (coreA D) 33)).alloc (.cells (wantA q u v) 34) = W) := ⟨_, rfl⟩
        rw [hW3.out] at HL3 X15 X16 X17 X18
        rw [hg2.out] at X17 X18 ⊢
        unfold coreA wantA at hW3
        rw [hW3.out]
        clear hW3 hg2
        -- the document's Told
        obtain ⟨c0, c1, c2, c3, c4, c5, c6, c7, c8⟩ := HL3.out.x6.cs
        have ho1 := HOU.out W3
        unfold coreA at ho1
        go_upto_region 12 with (first
          | (go_at_call 9; refine ho1.mono ?_; rintro e w4 ⟨rfl, b4⟩; have HL4 := hd (HL3.out.kept HXS.out b4); have hs2 := HRT.out w4 HL4.out.bel; unfold coreA at hs2)
          | (go_at_call 10; refine hs2.mono ?_; rintro e w5 ⟨rfl, b5⟩))
        have B4 := b4.trans ((b5.trans ((below_al' w5 (.cells (coreA TT) 33)).mono b5.size)).mono b4.size)
        have HL5 := hd (HL3.out.kept HXS.out B4)
        replace X15 := hd (X15.out.bel B4)
        replace X16 := hd (X16.out.bel B4)
        replace X17 := hd (X17.out.bel B4)
        replace X18 := hd (X18.out.bel B4)
        have X19 := hd (Box.new w5 33 (coreA TT))
        clear b4 b5 B4 hs2 ho1 HL3 HL4 HRT c0 c1 c2 c3 c4 c5 c6 c7 c8
        obtain ⟨g3, hg3⟩ : ∃ g, Hid (w5.heap.size = g) := ⟨_, rfl⟩
        obtain ⟨W5, hW5⟩ : ∃ W, Hid (w5.alloc (.cells (coreA TT) 33) = W) := ⟨_, rfl⟩
        rw [hW5.out] at HL5 X15 X16 X17 X18 X19
        rw [hg3.out] at X19 ⊢
        unfold coreA at hW5
        rw [hW5.out]
        clear hW5 hg3
        -- the document's Took
        obtain ⟨c0, c1, c2, c3, c4, c5, c6, c7, c8⟩ := HL5.out.x6.cs
        have ho1 := HOU.out W5
        unfold coreA at ho1
        go_upto_region 13 with (first
          | (go_at_call 9; refine ho1.mono ?_; rintro e w6 ⟨rfl, b6⟩; have HL6 := hd (HL5.out.kept HXS.out b6); have hs2 := HRK.out w6 HL6.out.bel; unfold coreA at hs2)
          | (go_at_call 11; refine hs2.mono ?_; rintro e w7 ⟨rfl, b7⟩))
        have B6 := b6.trans ((b7.trans ((below_al' w7 (.cells (coreA KK) 33)).mono b7.size)).mono b6.size)
        have HL7 := hd (HL5.out.kept HXS.out B6)
        replace X15 := hd (X15.out.bel B6)
        replace X16 := hd (X16.out.bel B6)
        replace X17 := hd (X17.out.bel B6)
        replace X18 := hd (X18.out.bel B6)
        replace X19 := hd (X19.out.bel B6)
        have X20 := hd (Box.new w7 33 (coreA KK))
        clear b6 b7 B6 hs2 ho1 HL5 HL6 HRK c0 c1 c2 c3 c4 c5 c6 c7 c8
        obtain ⟨g4, hg4⟩ : ∃ g, Hid (w7.heap.size = g) := ⟨_, rfl⟩
        obtain ⟨W7, hW7⟩ : ∃ W, Hid (w7.alloc (.cells (coreA KK) 33) = W) := ⟨_, rfl⟩
        rw [hW7.out] at HL7 X15 X16 X17 X18 X19 X20
        rw [hg4.out] at X20 ⊢
        unfold coreA at hW7
        rw [hW7.out]
        clear hW7 hg4
        have HA : Hid (All w W7 g1 g2 g3 g4 c D TT KK q u v X) := hd ⟨HL7.out, X15.out, X16.out, X17.out, X18.out, X19.out, X20.out⟩
        clear HL7 X15 X16 X17 X18 X19 X20
        have c0 : ∀ p : AllW w g1 g2 g3 g4 c D TT KK q u v X, p.val.cell? ⟨w.heap.size, 0, none⟩ = some (.int .i64 c.pc) := fun p => (Box.cs p.kp.lp.x6).1
        have c1 : ∀ p : AllW w g1 g2 g3 g4 c D TT KK q u v X, p.val.cell? ⟨w.heap.size, 1, none⟩ = some (.int .i64 (c.r 0)) := fun p => (Box.cs p.kp.lp.x6).2.1
        have c2 : ∀ p : AllW w g1 g2 g3 g4 c D TT KK q u v X, p.val.cell? ⟨w.heap.size, 2, none⟩ = some (.int .i64 (c.r 1)) := fun p => (Box.cs p.kp.lp.x6).2.2.1
        have c3 : ∀ p : AllW w g1 g2 g3 g4 c D TT KK q u v X, p.val.cell? ⟨w.heap.size, 3, none⟩ = some (.int .i64 (c.r 2)) := fun p => (Box.cs p.kp.lp.x6).2.2.2.1
        have c4 : ∀ p : AllW w g1 g2 g3 g4 c D TT KK q u v X, p.val.cell? ⟨w.heap.size, 4, none⟩ = some (.int .i64 (c.r 3)) := fun p => (Box.cs p.kp.lp.x6).2.2.2.2.1
        have c5 : ∀ p : AllW w g1 g2 g3 g4 c D TT KK q u v X, p.val.cell? ⟨w.heap.size, 5, none⟩ = some (.int .i64 (c.r 4)) := fun p => (Box.cs p.kp.lp.x6).2.2.2.2.2.1
        have c6 : ∀ p : AllW w g1 g2 g3 g4 c D TT KK q u v X, p.val.cell? ⟨w.heap.size, 6, none⟩ = some (.int .i64 (c.r 5)) := fun p => (Box.cs p.kp.lp.x6).2.2.2.2.2.2.1
        have c7 : ∀ p : AllW w g1 g2 g3 g4 c D TT KK q u v X, p.val.cell? ⟨w.heap.size, 7, none⟩ = some (.int .i64 (c.r 6)) := fun p => (Box.cs p.kp.lp.x6).2.2.2.2.2.2.2.1
        have c8 : ∀ p : AllW w g1 g2 g3 g4 c D TT KK q u v X, p.val.cell? ⟨w.heap.size, 8, none⟩ = some (.int .i64 (c.r 7)) := fun p => (Box.cs p.kp.lp.x6).2.2.2.2.2.2.2.2
        have d0 : ∀ p : AllW w g1 g2 g3 g4 c D TT KK q u v X, p.val.cell? ⟨g1, 0, none⟩ = some (.int .i64 D.pc) := fun p => (Box.cs p.kp.x15).1
        have d1 : ∀ p : AllW w g1 g2 g3 g4 c D TT KK q u v X, p.val.cell? ⟨g1, 1, none⟩ = some (.int .i64 (D.r 0)) := fun p => (Box.cs p.kp.x15).2.1
        have d2 : ∀ p : AllW w g1 g2 g3 g4 c D TT KK q u v X, p.val.cell? ⟨g1, 2, none⟩ = some (.int .i64 (D.r 1)) := fun p => (Box.cs p.kp.x15).2.2.1
        have d3 : ∀ p : AllW w g1 g2 g3 g4 c D TT KK q u v X, p.val.cell? ⟨g1, 3, none⟩ = some (.int .i64 (D.r 2)) := fun p => (Box.cs p.kp.x15).2.2.2.1
        have d4 : ∀ p : AllW w g1 g2 g3 g4 c D TT KK q u v X, p.val.cell? ⟨g1, 4, none⟩ = some (.int .i64 (D.r 3)) := fun p => (Box.cs p.kp.x15).2.2.2.2.1
        have d5 : ∀ p : AllW w g1 g2 g3 g4 c D TT KK q u v X, p.val.cell? ⟨g1, 5, none⟩ = some (.int .i64 (D.r 4)) := fun p => (Box.cs p.kp.x15).2.2.2.2.2.1
        have d6 : ∀ p : AllW w g1 g2 g3 g4 c D TT KK q u v X, p.val.cell? ⟨g1, 6, none⟩ = some (.int .i64 (D.r 5)) := fun p => (Box.cs p.kp.x15).2.2.2.2.2.2.1
        have d7 : ∀ p : AllW w g1 g2 g3 g4 c D TT KK q u v X, p.val.cell? ⟨g1, 7, none⟩ = some (.int .i64 (D.r 6)) := fun p => (Box.cs p.kp.x15).2.2.2.2.2.2.2.1
        have d8 : ∀ p : AllW w g1 g2 g3 g4 c D TT KK q u v X, p.val.cell? ⟨g1, 8, none⟩ = some (.int .i64 (D.r 7)) := fun p => (Box.cs p.kp.x15).2.2.2.2.2.2.2.2
        have e0 : ∀ p : AllW w g1 g2 g3 g4 c D TT KK q u v X, p.val.cell? ⟨g2, 0, none⟩ = some (.int .i64 D.pc) := fun p => (Box.cs p.kp.x17).1
        have e1 : ∀ p : AllW w g1 g2 g3 g4 c D TT KK q u v X, p.val.cell? ⟨g2, 1, none⟩ = some (.int .i64 (D.r 0)) := fun p => (Box.cs p.kp.x17).2.1
        have e2 : ∀ p : AllW w g1 g2 g3 g4 c D TT KK q u v X, p.val.cell? ⟨g2, 2, none⟩ = some (.int .i64 (D.r 1)) := fun p => (Box.cs p.kp.x17).2.2.1
        have e3 : ∀ p : AllW w g1 g2 g3 g4 c D TT KK q u v X, p.val.cell? ⟨g2, 3, none⟩ = some (.int .i64 (D.r 2)) := fun p => (Box.cs p.kp.x17).2.2.2.1
        have e4 : ∀ p : AllW w g1 g2 g3 g4 c D TT KK q u v X, p.val.cell? ⟨g2, 4, none⟩ = some (.int .i64 (D.r 3)) := fun p => (Box.cs p.kp.x17).2.2.2.2.1
        have e5 : ∀ p : AllW w g1 g2 g3 g4 c D TT KK q u v X, p.val.cell? ⟨g2, 5, none⟩ = some (.int .i64 (D.r 4)) := fun p => (Box.cs p.kp.x17).2.2.2.2.2.1
        have e6 : ∀ p : AllW w g1 g2 g3 g4 c D TT KK q u v X, p.val.cell? ⟨g2, 6, none⟩ = some (.int .i64 (D.r 5)) := fun p => (Box.cs p.kp.x17).2.2.2.2.2.2.1
        have e7 : ∀ p : AllW w g1 g2 g3 g4 c D TT KK q u v X, p.val.cell? ⟨g2, 7, none⟩ = some (.int .i64 (D.r 6)) := fun p => (Box.cs p.kp.x17).2.2.2.2.2.2.2.1
        have e8 : ∀ p : AllW w g1 g2 g3 g4 c D TT KK q u v X, p.val.cell? ⟨g2, 8, none⟩ = some (.int .i64 (D.r 7)) := fun p => (Box.cs p.kp.x17).2.2.2.2.2.2.2.2
        have t0 : ∀ p : AllW w g1 g2 g3 g4 c D TT KK q u v X, p.val.cell? ⟨g3, 0, none⟩ = some (.int .i64 TT.pc) := fun p => (Box.cs p.kp.x19).1
        have t1 : ∀ p : AllW w g1 g2 g3 g4 c D TT KK q u v X, p.val.cell? ⟨g3, 1, none⟩ = some (.int .i64 (TT.r 0)) := fun p => (Box.cs p.kp.x19).2.1
        have t2 : ∀ p : AllW w g1 g2 g3 g4 c D TT KK q u v X, p.val.cell? ⟨g3, 2, none⟩ = some (.int .i64 (TT.r 1)) := fun p => (Box.cs p.kp.x19).2.2.1
        have t3 : ∀ p : AllW w g1 g2 g3 g4 c D TT KK q u v X, p.val.cell? ⟨g3, 3, none⟩ = some (.int .i64 (TT.r 2)) := fun p => (Box.cs p.kp.x19).2.2.2.1
        have t4 : ∀ p : AllW w g1 g2 g3 g4 c D TT KK q u v X, p.val.cell? ⟨g3, 4, none⟩ = some (.int .i64 (TT.r 3)) := fun p => (Box.cs p.kp.x19).2.2.2.2.1
        have t5 : ∀ p : AllW w g1 g2 g3 g4 c D TT KK q u v X, p.val.cell? ⟨g3, 5, none⟩ = some (.int .i64 (TT.r 4)) := fun p => (Box.cs p.kp.x19).2.2.2.2.2.1
        have t6 : ∀ p : AllW w g1 g2 g3 g4 c D TT KK q u v X, p.val.cell? ⟨g3, 6, none⟩ = some (.int .i64 (TT.r 5)) := fun p => (Box.cs p.kp.x19).2.2.2.2.2.2.1
        have t7 : ∀ p : AllW w g1 g2 g3 g4 c D TT KK q u v X, p.val.cell? ⟨g3, 7, none⟩ = some (.int .i64 (TT.r 6)) := fun p => (Box.cs p.kp.x19).2.2.2.2.2.2.2.1
        have t8 : ∀ p : AllW w g1 g2 g3 g4 c D TT KK q u v X, p.val.cell? ⟨g3, 8, none⟩ = some (.int .i64 (TT.r 7)) := fun p => (Box.cs p.kp.x19).2.2.2.2.2.2.2.2
        have k0 : ∀ p : AllW w g1 g2 g3 g4 c D TT KK q u v X, p.val.cell? ⟨g4, 0, none⟩ = some (.int .i64 KK.pc) := fun p => (Box.cs p.kp.x20).1
        have k1 : ∀ p : AllW w g1 g2 g3 g4 c D TT KK q u v X, p.val.cell? ⟨g4, 1, none⟩ = some (.int .i64 (KK.r 0)) := fun p => (Box.cs p.kp.x20).2.1
        have k2 : ∀ p : AllW w g1 g2 g3 g4 c D TT KK q u v X, p.val.cell? ⟨g4, 2, none⟩ = some (.int .i64 (KK.r 1)) := fun p => (Box.cs p.kp.x20).2.2.1
        have k3 : ∀ p : AllW w g1 g2 g3 g4 c D TT KK q u v X, p.val.cell? ⟨g4, 3, none⟩ = some (.int .i64 (KK.r 2)) := fun p => (Box.cs p.kp.x20).2.2.2.1
        have k4 : ∀ p : AllW w g1 g2 g3 g4 c D TT KK q u v X, p.val.cell? ⟨g4, 4, none⟩ = some (.int .i64 (KK.r 3)) := fun p => (Box.cs p.kp.x20).2.2.2.2.1
        have k5 : ∀ p : AllW w g1 g2 g3 g4 c D TT KK q u v X, p.val.cell? ⟨g4, 5, none⟩ = some (.int .i64 (KK.r 4)) := fun p => (Box.cs p.kp.x20).2.2.2.2.2.1
        have k6 : ∀ p : AllW w g1 g2 g3 g4 c D TT KK q u v X, p.val.cell? ⟨g4, 6, none⟩ = some (.int .i64 (KK.r 5)) := fun p => (Box.cs p.kp.x20).2.2.2.2.2.2.1
        have k7 : ∀ p : AllW w g1 g2 g3 g4 c D TT KK q u v X, p.val.cell? ⟨g4, 7, none⟩ = some (.int .i64 (KK.r 6)) := fun p => (Box.cs p.kp.x20).2.2.2.2.2.2.2.1
        have k8 : ∀ p : AllW w g1 g2 g3 g4 c D TT KK q u v X, p.val.cell? ⟨g4, 8, none⟩ = some (.int .i64 (KK.r 7)) := fun p => (Box.cs p.kp.x20).2.2.2.2.2.2.2.2
        have v0 : ∀ p : AllW w g1 g2 g3 g4 c D TT KK q u v X, p.val.cell? ⟨g1 + 1, 0, none⟩ = some (.int .i64 q) := fun p => (Box.cw p.kp.x16).1
        have v1 : ∀ p : AllW w g1 g2 g3 g4 c D TT KK q u v X, p.val.cell? ⟨g1 + 1, 1, none⟩ = some (.int .i64 u) := fun p => (Box.cw p.kp.x16).2.1
        have v2 : ∀ p : AllW w g1 g2 g3 g4 c D TT KK q u v X, p.val.cell? ⟨g1 + 1, 2, none⟩ = some (.int .i64 v) := fun p => (Box.cw p.kp.x16).2.2
        have y0 : ∀ p : AllW w g1 g2 g3 g4 c D TT KK q u v X, p.val.cell? ⟨g2 + 1, 0, none⟩ = some (.int .i64 q) := fun p => (Box.cw p.kp.x18).1
        have y1 : ∀ p : AllW w g1 g2 g3 g4 c D TT KK q u v X, p.val.cell? ⟨g2 + 1, 1, none⟩ = some (.int .i64 u) := fun p => (Box.cw p.kp.x18).2.1
        have y2 : ∀ p : AllW w g1 g2 g3 g4 c D TT KK q u v X, p.val.cell? ⟨g2 + 1, 2, none⟩ = some (.int .i64 v) := fun p => (Box.cw p.kp.x18).2.2
        have f6 : ∀ p : AllW w g1 g2 g3 g4 c D TT KK q u v X, ∀ i, p.val.frozen? ⟨w.heap.size, i, none⟩ = false := fun p => p.kp.lp.x6.fr
        have q1 : ∀ p : AllW w g1 g2 g3 g4 c D TT KK q u v X, Calls Tryd.prog 12 #[.agg #[.int .i64 D.pc, .int .i64 (D.r 0), .int .i64 (D.r 1), .int .i64 (D.r 2), .int .i64 (D.r 3), .int .i64 (D.r 4), .int .i64 (D.r 5), .int .i64 (D.r 6), .int .i64 (D.r 7)], .agg #[.int .i64 q, .int .i64 u, .int .i64 v], .agg #[.int .i64 D.pc, .int .i64 (D.r 0), .int .i64 (D.r 1), .int .i64 (D.r 2), .int .i64 (D.r 3), .int .i64 (D.r 4), .int .i64 (D.r 5), .int .i64 (D.r 6), .int .i64 (D.r 7)], .agg #[.int .i64 q, .int .i64 u, .int .i64 v]] p.val fun e w'' => e = .returned (.bool true) ∧ ∃ p' : AllW w g1 g2 g3 g4 c D TT KK q u v X, w'' = p'.val := fun p => (HSM.out p.val).mono fun e w'' h => ⟨h.1, ⟨w'', p.kp.kept HXS.out h.2⟩, rfl⟩
        have q2 : ∀ p : AllW w g1 g2 g3 g4 c D TT KK q u v X, Calls Tryd.prog 13 #[.agg #[.int .i64 c.pc, .int .i64 (c.r 0), .int .i64 (c.r 1), .int .i64 (c.r 2), .int .i64 (c.r 3), .int .i64 (c.r 4), .int .i64 (c.r 5), .int .i64 (c.r 6), .int .i64 (c.r 7)], .slice (some ⟨g, 0, none⟩) l.length oc3, .int .i64 reply] p.val fun e w'' => e = .returned (.agg #[.int .i64 TT.pc, .int .i64 (TT.r 0), .int .i64 (TT.r 1), .int .i64 (TT.r 2), .int .i64 (TT.r 3), .int .i64 (TT.r 4), .int .i64 (TT.r 5), .int .i64 (TT.r 6), .int .i64 (TT.r 7)]) ∧ ∃ p' : AllW w g1 g2 g3 g4 c D TT KK q u v X, w'' = p'.val := fun p => (HTO.out p.val p.kp.lp).mono fun e w'' h => ⟨h.1, ⟨w'', p.kp.kept HXS.out h.2⟩, rfl⟩
        have q3 : ∀ p : AllW w g1 g2 g3 g4 c D TT KK q u v X, Calls Tryd.prog 14 #[.agg #[.int .i64 c.pc, .int .i64 (c.r 0), .int .i64 (c.r 1), .int .i64 (c.r 2), .int .i64 (c.r 3), .int .i64 (c.r 4), .int .i64 (c.r 5), .int .i64 (c.r 6), .int .i64 (c.r 7)], .slice (some ⟨g, 0, none⟩) l.length oc3, .int .i64 reply, .int .i64 frm] p.val fun e w'' => e = .returned (.agg #[.int .i64 KK.pc, .int .i64 (KK.r 0), .int .i64 (KK.r 1), .int .i64 (KK.r 2), .int .i64 (KK.r 3), .int .i64 (KK.r 4), .int .i64 (KK.r 5), .int .i64 (KK.r 6), .int .i64 (KK.r 7)]) ∧ ∃ p' : AllW w g1 g2 g3 g4 c D TT KK q u v X, w'' = p'.val := fun p => (HKO.out p.val p.kp.lp).mono fun e w'' h => ⟨h.1, ⟨w'', p.kp.kept HXS.out h.2⟩, rfl⟩
        have q4 : ∀ p : AllW w g1 g2 g3 g4 c D TT KK q u v X, Calls Tryd.prog 15 #[.agg #[.int .i64 c.pc, .int .i64 (c.r 0), .int .i64 (c.r 1), .int .i64 (c.r 2), .int .i64 (c.r 3), .int .i64 (c.r 4), .int .i64 (c.r 5), .int .i64 (c.r 6), .int .i64 (c.r 7)]] p.val fun e w'' => e = .returned (.agg #[.int .i64 NN.pc, .int .i64 (NN.r 0), .int .i64 (NN.r 1), .int .i64 (NN.r 2), .int .i64 (NN.r 3), .int .i64 (NN.r 4), .int .i64 (NN.r 5), .int .i64 (NN.r 6), .int .i64 (NN.r 7)]) ∧ ∃ p' : AllW w g1 g2 g3 g4 c D TT KK q u v X, w'' = p'.val := fun p => (HNX.out p.val).mono fun e w'' h => ⟨h.1, ⟨w'', p.kp.kept HXS.out h.2⟩, rfl⟩
        have q5 : ∀ p : AllW w g1 g2 g3 g4 c D TT KK q u v X, Calls Tryd.prog 16 #[.agg #[.int .i64 c.pc, .int .i64 (c.r 0), .int .i64 (c.r 1), .int .i64 (c.r 2), .int .i64 (c.r 3), .int .i64 (c.r 4), .int .i64 (c.r 5), .int .i64 (c.r 6), .int .i64 (c.r 7)]] p.val fun e w'' => e = .returned (.agg #[.int .i64 NN.pc, .int .i64 (NN.r 0), .int .i64 (NN.r 1), .int .i64 (NN.r 2), .int .i64 (NN.r 3), .int .i64 (NN.r 4), .int .i64 (NN.r 5), .int .i64 (NN.r 6), .int .i64 (NN.r 7)]) ∧ ∃ p' : AllW w g1 g2 g3 g4 c D TT KK q u v X, w'' = p'.val := fun p => (HRN.out p.val).mono fun e w'' h => ⟨h.1, ⟨w'', p.kp.kept HXS.out h.2⟩, rfl⟩
        have q6 : ∀ p : AllW w g1 g2 g3 g4 c D TT KK q u v X, Calls Tryd.prog 9 #[.agg #[.int .i64 TT.pc, .int .i64 (TT.r 0), .int .i64 (TT.r 1), .int .i64 (TT.r 2), .int .i64 (TT.r 3), .int .i64 (TT.r 4), .int .i64 (TT.r 5), .int .i64 (TT.r 6), .int .i64 (TT.r 7)]] p.val fun e w'' => e = .returned (.agg #[.int .i64 TT.pc, .int .i64 (TT.r 0), .int .i64 (TT.r 1), .int .i64 (TT.r 2), .int .i64 (TT.r 3), .int .i64 (TT.r 4), .int .i64 (TT.r 5), .int .i64 (TT.r 6), .int .i64 (TT.r 7)]) ∧ ∃ p' : AllW w g1 g2 g3 g4 c D TT KK q u v X, w'' = p'.val := fun p => (HOT.out p.val).mono fun e w'' h => ⟨h.1, ⟨w'', p.kp.kept HXS.out h.2⟩, rfl⟩
        have q7 : ∀ p : AllW w g1 g2 g3 g4 c D TT KK q u v X, Calls Tryd.prog 9 #[.agg #[.int .i64 KK.pc, .int .i64 (KK.r 0), .int .i64 (KK.r 1), .int .i64 (KK.r 2), .int .i64 (KK.r 3), .int .i64 (KK.r 4), .int .i64 (KK.r 5), .int .i64 (KK.r 6), .int .i64 (KK.r 7)]] p.val fun e w'' => e = .returned (.agg #[.int .i64 KK.pc, .int .i64 (KK.r 0), .int .i64 (KK.r 1), .int .i64 (KK.r 2), .int .i64 (KK.r 3), .int .i64 (KK.r 4), .int .i64 (KK.r 5), .int .i64 (KK.r 6), .int .i64 (KK.r 7)]) ∧ ∃ p' : AllW w g1 g2 g3 g4 c D TT KK q u v X, w'' = p'.val := fun p => (HOK.out p.val).mono fun e w'' h => ⟨h.1, ⟨w'', p.kp.kept HXS.out h.2⟩, rfl⟩
        have q8 : ∀ p : AllW w g1 g2 g3 g4 c D TT KK q u v X, Calls Tryd.prog 9 #[.agg #[.int .i64 NN.pc, .int .i64 (NN.r 0), .int .i64 (NN.r 1), .int .i64 (NN.r 2), .int .i64 (NN.r 3), .int .i64 (NN.r 4), .int .i64 (NN.r 5), .int .i64 (NN.r 6), .int .i64 (NN.r 7)]] p.val fun e w'' => e = .returned (.agg #[.int .i64 NN.pc, .int .i64 (NN.r 0), .int .i64 (NN.r 1), .int .i64 (NN.r 2), .int .i64 (NN.r 3), .int .i64 (NN.r 4), .int .i64 (NN.r 5), .int .i64 (NN.r 6), .int .i64 (NN.r 7)]) ∧ ∃ p' : AllW w g1 g2 g3 g4 c D TT KK q u v X, w'' = p'.val := fun p => (HON.out p.val).mono fun e w'' h => ⟨h.1, ⟨w'', p.kp.kept HXS.out h.2⟩, rfl⟩
        have q9 : ∀ p : AllW w g1 g2 g3 g4 c D TT KK q u v X, Calls Tryd.prog 9 #[.agg #[.int .i64 c.pc, .int .i64 (c.r 0), .int .i64 (c.r 1), .int .i64 (c.r 2), .int .i64 (c.r 3), .int .i64 (c.r 4), .int .i64 (c.r 5), .int .i64 (c.r 6), .int .i64 (c.r 7)]] p.val fun e w'' => e = .returned (.agg #[.int .i64 c.pc, .int .i64 (c.r 0), .int .i64 (c.r 1), .int .i64 (c.r 2), .int .i64 (c.r 3), .int .i64 (c.r 4), .int .i64 (c.r 5), .int .i64 (c.r 6), .int .i64 (c.r 7)]) ∧ ∃ p' : AllW w g1 g2 g3 g4 c D TT KK q u v X, w'' = p'.val := fun p => (HOU.out p.val).mono fun e w'' h => ⟨h.1, ⟨w'', p.kp.kept HXS.out h.2⟩, rfl⟩
        have nek : Nonempty (AllW w g1 g2 g3 g4 c D TT KK q u v X) := ⟨⟨W7, HA.out⟩⟩
        have HR := hd (HA.out.kept HXS.out ((Below.refl _ W7).drew))
        have h8 := eq8
        clear HSM HTO HKO HNX HRN HOT HOK HON HOU HA
        refine wp_region_fam (α := AllW w g1 g2 g3 g4 c D TT KK q u v X) AllW.val (by kernel_rfl) (by kernel_rfl) ⟨W7.drew, HR.out⟩ rfl ?_
        repeat (go_big_quiet_step (first | with_reducible exact q1 _ | with_reducible exact q2 _ | with_reducible exact q3 _ | with_reducible exact q4 _ | with_reducible exact q5 _ | with_reducible exact q6 _ | with_reducible exact q7 _ | with_reducible exact q8 _ | with_reducible exact q9 _))
        refine wpQuiet_nil ?_
        rintro w' ⟨p, rfl⟩
        have HQ := hd p.kp
        clear q1 q2 q3 q4 q5 q6 q7 q8 q9 HR
        by_cases hq : q = 0
        · have hq' : (q == 0) = true := by simpa using hq
          clear hq
          go_wp2_with fail
          have HZ := hd (HQ.out.lp.put HXS.out D)
          unfold put9 at HZ
          go_roundg (gk - 1)
          case measure => omega
          case rel => exact ⟨n + 1, D, by omega, by go_num, HD, HZ⟩
        · have hq' : (q == 0) = false := by simpa using hq
          clear hq
          go_wp2_with fail
          go_meet
          case rel => exact hd ⟨c, HQ.out.lp⟩
      · have hltd : decide ((n : Int) < 300) = false := decide_eq_false (by omega)
        go_wp2_with fail
        go_meet
        case rel => exact hd ⟨c, HL.out⟩
  case rest =>
    obtain ⟨cc, HL⟩ := hcut.out
    replace HL := hd HL
    clear hcut
    go_wp2_with fail
    have HC : Hid (Cop w wc (some ⟨g, 0, none⟩) oc3 l) := hd (by have := HL.out.ex; rw [← hX.out] at this; exact this)
    have HPW := hd (HP.out.kept HL.out.bel)
    have HB := hd HL.out.bel
    clear HL
    go_loopg [21] l.length (fun gk v21 wr => ∃ i : Nat, i + gk = l.length ∧ v21 = .int .i64 i ∧ ∃ m, wr = wc.drewN m)
    case atStart => exact ⟨0, by omega, rfl, 0, rfl⟩
    case round =>
      obtain ⟨i, hi, rfl, m, rfl⟩ := hrel
      by_cases hlt : i < l.length
      · have hlt' : (i : Int) < (l.length : Int) := by omega
        obtain ⟨b1, o1, e1, x1⟩ := HC.out.prg i hlt
        cases e1
        rw [Nat.zero_add] at x1
        obtain ⟨b, off, rfl, x2⟩ := HPW.out i hlt
        generalize l.getD i default = x at *
        obtain ⟨p0, p1, p2, p3, p4⟩ := x1
        obtain ⟨r0, r1, r2, r3, r4⟩ := x2
        go_wp2_with fail
        go_quiet (fail)
        go_wp2
        go_roundg (gk - 1)
        case measure => omega
        case rel => exact ⟨i + 1, by omega, by go_num, _, rfl⟩
      · have hltd : decide ((i : Int) < (l.length : Int)) = false := decide_eq_false (by omega)
        obtain ⟨g', e, mk⟩ := HC.out.mark
        cases e
        go_wp2
        go_ret
        exact ⟨rfl, below_drewN HB.out m⟩

theorem cpuSteps_walk (c : Core) (hg : GoodC c) (ad : Option Addr) (l : List Ins) (cap : Nat) (tick self reply frm : Int) (hl : ∀ x ∈ l, Alu.Fits x.imm) (ht : Alu.Fits tick) (hs : Alu.Fits self) (w : World) (hP : Prg w ad l) (hF : Fld w) :
    Calls Tryd.prog 4 #[coreV c, .slice ad l.length cap, .int .i64 tick, .int .i64 self, .int .i64 reply, .int .i64 frm] w fun e w' => e = .returned (.bool true) ∧ Below w.heap.size w w' := by
  rcases Nat.lt_or_ge 65536 l.length with h | h
  · exact cpuSteps_long c hg ad l cap tick self reply frm hl ht hs w hP hF h
  · exact cpuSteps_short c hg ad l cap tick self reply frm hl ht hs w hP hF h
end Go.Proofs.YtfkdaimhdjaefaaDoor
