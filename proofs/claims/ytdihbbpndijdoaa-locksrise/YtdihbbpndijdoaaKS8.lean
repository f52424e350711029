/- LocksRise. -/
import Derived.Test.YtdihbbpndijdoaaKS7
import Derived.Test.YtdihbbpndijdoaaKOp
import Derived.Deep.CutBlock
namespace Go.Proofs.Ytdihbbpndijdoaa
open Go.RowKit Go.Maps

theorem Told.kept {w0 w1 w2 : World} {os : List Int} {qs : Qs} {a1 a2 : Option Addr} {c1 c2 : Nat} {es : List Qe} {F : Nat → Prop} (h : Told w0 os qs w1 a1 c1 a2 c2 es) (hm : Mod F w1 w2) (hF : ∀ k, F k → k < w0.heap.size) : Rd w2 a1 (iC os) ∧ RdQ w2 a2 es := by
  have h1 := h.own.mod hm (fun k hk e => by have := (h.new k hk).1; have := hF k e; omega)
  have h2 := h.ql.mod hm (fun k hk e => by have := h.ql.ge k hk; have := hF k e; omega)
  exact ⟨h1.rd, h2.row.rd, fun i hi => (h2.qs i (Nat.zero_le _) hi).rd⟩

/-- How all stands behind a step. -/
structure After (w wy : World) (b : Nat) (os os' : List Int) (qs qs' : Qs) (n i : Nat) (kd lock p : Int) (G : Nat) (a1 a2 : Option Addr) (es : List Qe) : Prop where
  liv : Liv w wy b os' qs'
  rise : Rise os' qs'
  len : os'.length = n
  tot : total qs' ≤ i + 1
  now : ∀ k, NowOk os os' qs (kd == 1) lock p k
  was : Rd wy a1 (iC os)
  ahead : RdQ wy a2 es
  b0 : wy.cell? ⟨G, 0, none⟩ = some (.int .i64 kd)
  b1 : wy.cell? ⟨G, 1, none⟩ = some (.int .i64 lock)
  b2 : wy.cell? ⟨G, 2, none⟩ = some (.int .i64 p)

set_option maxRecDepth 100000 in
set_option maxHeartbeats 8000000 in
theorem rise_good {w : World} {n : Nat} (h8 : n ≤ 8) {a : Option Addr} {ln c : Nat} {sc : List Op3} (hR : Rd w a (opC sc)) (hLN : Hid (sc.length = ln)) (hlen : ln < 5900000000000) (hf : ∀ x ∈ sc, Fit64 x.2.2) :
    Calls Try.prog 6 #[.int .i64 (n : Int), .slice a ln c] w fun e w' => e = .returned (.bool true) ∧ Below w.heap.size w w' := by
  have hn1 := new_any (w := w) h8
  have HR := hd hR
  have HF := hd hf
  have HFX : Hid (∀ W, Below w.heap.size w W → Calls Try.prog 7 #[] W fun e w' => e = .returned (.bool true) ∧ Below w.heap.size w w') := hd (fun W hb => by
    refine (fixed_any (w := W)).mono ?_
    rintro e w' ⟨rfl, hb2⟩
    exact ⟨rfl, hb.trans (hb2.mono hb.size)⟩)
  clear hR hf
  go_enter Try.func6, Try.ntmps6
  go_upto_region 4 with (first
    | (go_at_call 8; refine hn1.mono ?_; rintro e1 w1 ho1
       obtain ⟨b, rfl, hx1⟩ := Liv.new ho1
       replace hx1 := hd hx1
       clear ho1))
  clear hn1
  go_wp2_with fail
  go_loopg [7, 8, 9, 10, 11, 12, 13, 14, 39, 40, 41, 42, 43, 44, 45, 46, 47, 48, 49, 50, 51, 52, 53, 54, 55, 56, 57, 58, 59, 60, 61, 62, 63, 64, 65, 66, 67, 68, 69, 70, 71, 72, 73, 74, 75, 76, 77, 78, 79, 80, 81, 82, 83, 84, 85, 86, 87, 88, 89, 90, 91, 92, 93, 94, 95, 96, 97, 98, 99, 100, 101, 102, 103, 104, 105, 106, 107, 108, 109, 110, 111, 112, 113, 114, 115, 116, 117, 118, 119, 120, 121, 122, 123, 124, 125, 126, 127, 128, 129, 130, 131, 132, 133, 134, 135, 136, 137, 138, 139, 140, 141, 142, 143, 144, 145, 146, 147, 148, 149, 150, 151, 152, 153, 154, 155, 156, 157, 158, 159, 160, 161, 162, 163, 164, 165, 166, 167, 168, 169, 170, 171, 172, 173, 174, 175, 176, 177, 178, 179, 180, 181, 182, 183, 184, 185, 186, 187, 188, 189, 190, 191, 192, 193, 194, 195, 196, 197, 198, 199, 200] ln (fun k v7 v8 v9 v10 v11 v12 v13 v14 v39 v40 v41 v42 v43 v44 v45 v46 v47 v48 v49 v50 v51 v52 v53 v54 v55 v56 v57 v58 v59 v60 v61 v62 v63 v64 v65 v66 v67 v68 v69 v70 v71 v72 v73 v74 v75 v76 v77 v78 v79 v80 v81 v82 v83 v84 v85 v86 v87 v88 v89 v90 v91 v92 v93 v94 v95 v96 v97 v98 v99 v100 v101 v102 v103 v104 v105 v106 v107 v108 v109 v110 v111 v112 v113 v114 v115 v116 v117 v118 v119 v120 v121 v122 v123 v124 v125 v126 v127 v128 v129 v130 v131 v132 v133 v134 v135 v136 v137 v138 v139 v140 v141 v142 v143 v144 v145 v146 v147 v148 v149 v150 v151 v152 v153 v154 v155 v156 v157 v158 v159 v160 v161 v162 v163 v164 v165 v166 v167 v168 v169 v170 v171 v172 v173 v174 v175 v176 v177 v178 v179 v180 v181 v182 v183 v184 v185 v186 v187 v188 v189 v190 v191 v192 v193 v194 v195 v196 v197 v198 v199 v200 wr => ∃ i : Nat, i + k = ln ∧ i ≤ 3000 ∧ v7 = .int .i64 (i : Int) ∧ Hid (∃ os qs, Liv w wr b os qs ∧ Rise os qs ∧ os.length = n ∧ total qs ≤ i))
  case atStart => exact ⟨0, by omega, by omega, by go_num, hd ⟨_, _, hx1.out, Rise.new n, by simp, by rw [total_nils]; exact Nat.le_refl _⟩⟩
  case round =>
    obtain ⟨i, hik, hi3, rfl, HX⟩ := hrel
    clear hx1
    obtain ⟨os, qs, hL, hRi, hol, htt⟩ := HX.out
    by_cases h0 : i < ln ∧ i < 3000
    · obtain ⟨h1, h2⟩ := h0
      obtain ⟨g, o, rfl, x0, x1, x2⟩ := rd_op (HR.out.below hL.bel) i (by rw [hLN.out]; exact h1)
      have hpf := HF.out _ (opAt_mem (i := i) (by rw [hLN.out]; exact h1))
      obtain ⟨⟨kd, lk, pp⟩, hop⟩ : ∃ y, Hid (opAt sc i = y) := ⟨_, rfl⟩
      rw [hop.out] at x0 x1 x2 hpf
      simp only at x0 x1 x2 hpf
      have HL := hd hL
      have HRI := hd hRi
      have HOL := hd hol
      have HTT := hd htt
      clear HX hL hRi hol htt hop
      go_upto_region 8 with fail
      obtain ⟨w0, hw0⟩ : ∃ W, Hid (wr.alloc (.cells #[.int .i64 kd, .int .i64 lk, .int .i64 pp] 41) = W) := ⟨_, rfl⟩
      have hb0 : Below wr.heap.size wr w0 := by rw [← hw0.out]; exact below_al wr _
      obtain ⟨y0, y1, y2⟩ := op_box wr kd lk pp
      rw [hw0.out] at y0 y1 y2
      have hGl : wr.heap.size < w0.heap.size := by rw [← hw0.out]; simp
      obtain ⟨G, hG⟩ : ∃ G, Hid (wr.heap.size = G) := ⟨_, rfl⟩
      rw [hw0.out, hG.out]
      obtain ⟨F, hk, hF, hbr⟩ := HL.out
      have hlF := hk.lt
      have hst := state_any (hk.below hb0) (by have := HTT.out; omega)
      rw [HOL.out] at hst
      have HK := hd hk
      rw [hG.out] at y0 y1 y2 hGl
      have HGF : Hid (¬ F G ∧ ∀ k, F k → k < w0.heap.size) := hd ⟨fun e => by have := hlF G e; rw [hG.out] at this; omega, fun k hk => Nat.lt_of_lt_of_le (hlF k hk) hb0.size⟩
      have HFW := hd hF
      have HB0 := hd hb0
      have HBR := hd hbr
      have HGL := hd hGl
      clear hk hF hbr hlF hb0 hGl hw0 x0 x1 x2
      go_upto_region 9 with (first | (go_at_call 15; refine hst.mono ?_; rintro e2 w2 ⟨a1, c1, a2, c2, es1, rfl, hT1⟩))
      have HT1 := hd hT1
      have z0 : w2.cell? ⟨G, 0, none⟩ = some (.int .i64 kd) := (hT1.bel.cell (p := ⟨G, 0, none⟩) HGL.out).trans y0
      have z1 : w2.cell? ⟨G, 1, none⟩ = some (.int .i64 lk) := (hT1.bel.cell (p := ⟨G, 1, none⟩) HGL.out).trans y1
      have z2 : w2.cell? ⟨G, 2, none⟩ = some (.int .i64 pp) := (hT1.bel.cell (p := ⟨G, 2, none⟩) HGL.out).trans y2
      have HK2 : Hid (Lk w2 b F os qs) := hd ((HK.out.below HB0.out).below hT1.bel)
      have HB2 : Hid (Below w.heap.size w w2) := hd (by
        have b1 := HBR.out.trans (HB0.out.mono HBR.out.size)
        exact b1.trans (hT1.bel.mono b1.size))
      -- how all stands behind a call
      have HAF : Hid (∀ (w3 wy : World) os' qs', Below w2.heap.size w2 w3 → LkOut w3 b F os' qs' wy → Rise os' qs' → os'.length = os.length → total qs' ≤ total qs + 1 → (∀ k, NowOk os os' qs (kd == 1) lk pp k) → After w wy b os os' qs qs' n i kd lk pp G a1 a2 es1) := hd (fun w3 wy os' qs' hb3 ho hr hl ht hn => by
        have hm : Mod F w2 wy := (Mod.of_below F hb3).trans ho.1 (fun k hk => .inl hk)
        obtain ⟨k1, k2⟩ := HT1.out.kept hm HGF.out.2
        have hG2 : G < w2.heap.size := Nat.lt_of_lt_of_le HGL.out HT1.out.bel.size
        have hb3' := HB2.out.trans (hb3.mono HB2.out.size)
        exact ⟨Liv.out HFW.out hb3' ho, hr, by rw [hl]; exact HOL.out, by have := HTT.out; omega, hn, k1, k2, (hm.cell (p := ⟨G, 0, none⟩) hG2 HGF.out.1).trans z0, (hm.cell (p := ⟨G, 1, none⟩) hG2 HGF.out.1).trans z1, (hm.cell (p := ⟨G, 2, none⟩) hG2 HGF.out.1).trans z2⟩)
      have hG8 : GoodL os qs := HK.out.good
      have HGD := hd hG8
      have HLQ : Hid (∀ W, Below w2.heap.size w2 W → Liv w W b os qs) := hd (fun W hb => ⟨F, HK2.out.below hb, HFW.out, HB2.out.trans (hb.mono HB2.out.size)⟩)
      have HQ1 : Hid (qsOf es1 = qs) := hd hT1.qs
      clear hst y0 y1 y2 hT1 HT1 hG8 hG HK HB0 HBR HGF HFW
      go_upto_block 2 with fail
      go_cut [11, 60, 61, 62, 63, 64, 65, 66, 67, 68, 69, 70, 71, 72, 73, 74, 75, 76, 77, 78, 79, 80, 81, 82, 83, 84, 85, 86, 87, 88, 89, 90, 91, 92, 93, 94, 95, 96, 97] (fun v11 v60 v61 v62 v63 v64 v65 v66 v67 v68 v69 v70 v71 v72 v73 v74 v75 v76 v77 v78 v79 v80 v81 v82 v83 v84 v85 v86 v87 v88 v89 v90 v91 v92 v93 v94 v95 v96 v97 wy => Hid (∃ os' qs', After w wy b os os' qs qs' n i kd lk pp G a1 a2 es1))
      case first =>
        have HTK : Hid (∀ W, Below w2.heap.size w2 W → kd = 1 → (hold os pp = [] ∨ (hold os pp).getD ((hold os pp).length - 1) 0 < lk) → Calls Try.prog 17 #[.pointer (some ⟨b, 0, none⟩), .int .i64 lk, .int .i64 pp] W fun e w' => (∃ v, e = .returned v) ∧ ∃ os' qs', After w w' b os os' qs qs' n i kd lk pp G a1 a2 es1) := hd (fun W hb hk hh => by
          refine (take_any (HK2.out.below hb) (by have := HTT.out; omega) lk hpf).mono ?_
          rintro e w' ⟨rfl, ho⟩
          have hl : (takeO os qs lk pp).length = os.length := by
            have h1 := (HGD.out.take lk hpf.2).n
            unfold takeO
            repeat' split
            all_goals first | rfl | simp
          refine ⟨⟨_, rfl⟩, _, _, HAF.out W w' _ _ hb ho (HRI.out.take lk pp (rise_take_ok hh)) hl (total_take _ _ _ _) (fun k => ?_)⟩
          have hkk : (kd == 1) = true := by rw [hk]; rfl
          rw [hkk]
          exact take_now)
        have HGV : Hid (Calls Try.prog 18 #[.pointer (some ⟨b, 0, none⟩), .int .i64 lk, .int .i64 pp] w2 fun e w' => (∃ v, e = .returned v) ∧ ∃ os' qs', After w w' b os os' qs qs' n i kd lk pp G a1 a2 es1) := hd (by
          refine (give_any HK2.out (by have := HTT.out; omega) lk pp).mono ?_
          rintro e w' ⟨rfl, ho⟩
          have hl : (giveO os qs lk pp).length = os.length := by
            unfold giveO
            repeat' split
            all_goals first | rfl | exact handO_len _ _ _
          exact ⟨⟨_, rfl⟩, _, _, HAF.out w2 w' _ _ (below_same _) ho (HRI.out.give HGD.out lk pp) hl (Nat.le_trans (total_give _ _ _ _) (Nat.le_succ _)) (fun k => give_now _)⟩)
        have HEN : Hid (Calls Try.prog 19 #[.pointer (some ⟨b, 0, none⟩), .int .i64 pp] w2 fun e w' => (∃ v, e = .returned v) ∧ ∃ os' qs', After w w' b os os' qs qs' n i kd lk pp G a1 a2 es1) := hd (by
          refine (end_any HK2.out (by have := HTT.out; omega) hpf).mono ?_
          intro e w' ho
          obtain ⟨m1, F', a', c', he, l1, n1, -, -⟩ := ho
          have hl : (endA os qs pp).1.length = os.length := by
            have h1 : ∀ (l os : List Int) (qs : Qs) (out : List (Int × Int)), (endF l os qs out).1.length = os.length := fun l => by
              induction l with
              | nil => intro os qs out; rfl
              | cons x r ih => intro os qs out; rw [endF, ih, handO_len]
            exact h1 _ _ _ _
          exact ⟨⟨_, he⟩, _, _, HAF.out w2 w' _ _ (below_same _) ⟨m1, F', l1, n1⟩ (HRI.out.end HGD.out pp) hl (Nat.le_trans (total_end _ _ _) (Nat.le_succ _)) (fun k => end_now HRI.out HGD.out pp _ _ _)⟩)
        by_cases hk1 : kd = 1
        · subst hk1
          obtain ⟨-, m, ao, co, aq, cq, es, hLM, -, -, -⟩ := HK2.out
          have hho := holds_any hLM.lb HGD.out.le (fun i => (HGD.out.oFit i).1) pp
          clear hLM HGV HEN HAF
          go_upto_region 13 with (first | (go_at_call 16; refine hho.mono ?_; rintro e3 w3 ⟨ah, nh, ch, rfl, ho3⟩))
          have hb3 := ho3.2.2.1
          have hGw : G < w2.heap.size := World.block_lt_of_cell? w2 _ z1
          have t0 : w3.cell? ⟨G, 0, none⟩ = some (.int .i64 1) := (hb3.cell (p := ⟨G, 0, none⟩) hGw).trans z0
          have t1 : w3.cell? ⟨G, 1, none⟩ = some (.int .i64 lk) := (hb3.cell (p := ⟨G, 1, none⟩) hGw).trans z1
          have t2 : w3.cell? ⟨G, 2, none⟩ = some (.int .i64 pp) := (hb3.cell (p := ⟨G, 2, none⟩) hGw).trans z2
          have HBQ : Hid (∀ q, Below w2.heap.size w2 (w3.drewN q)) := hd (fun q => below_drewN hb3 q)
          have HO3 := hd ho3
          have hnh8 : nh ≤ 8 := by rw [← ho3.1]; exact Nat.le_trans (holdTo_len _ _ _) HGD.out.le
          clear hho ho3 hb3 hGw z0 z1 z2
          by_cases hz : nh = 0
          · subst hz
            have hnil : hold os pp = [] := List.eq_nil_of_length_eq_zero HO3.out.1
            go_quiet (fail)
            have htk := HTK.out (w3.drewN nq) (HBQ.out nq) (by trivial) (.inl hnil)
            clear HTK hnil HO3 HBQ
            go_wp2_with (first | (go_at_call 17; refine htk.mono ?_; rintro e4 w4 ⟨⟨v4, rfl⟩, hA4⟩))
            go_meet
            case rel => exact hd hA4
          · obtain ⟨m', rfl⟩ : ∃ m', nh = m' + 1 := ⟨nh - 1, by omega⟩
            obtain ⟨gh, rfl, ch1⟩ := HO3.out.2.1.cell m' (by omega)
            rw [iC_at _ m' (by rw [HO3.out.1]; omega) 0] at ch1
            obtain ⟨v, hv⟩ : ∃ v, Hid ((hold os pp).getD m' 0 = v) := ⟨_, rfl⟩
            rw [hv.out] at ch1
            have hsub : ((m' + 1 : Nat) : Int) - 1 = (m' : Int) := by omega
            have hpos : 0 < m' + 1 := by omega
            by_cases hge : lk ≤ v
            · have HE : Hid (∀ q, ∃ os qs, Liv w (w3.drewN q) b os qs ∧ Rise os qs ∧ os.length = n ∧ total qs ≤ i + 1) := hd (fun q => ⟨os, qs, HLQ.out _ (HBQ.out q), HRI.out, HOL.out, by have := HTT.out; omega⟩)
              clear HTK HO3 HBQ hz
              go_quiet (fail)
              go_wp2_with fail
              go_roundg (gk - 1)
              case rel => exact ⟨i + 1, by omega, by omega, by go_num, hd (HE.out _)⟩
              case measure => omega
            · have hlt' : v < lk := by omega
              have hle' : decide (lk ≤ v) = false := by simpa using hge
              go_quiet (fail)
              have htk := HTK.out (w3.drewN nq) (HBQ.out nq) (by trivial) (.inr (by rw [HO3.out.1]; show (hold os pp).getD (m' + 1 - 1) 0 < lk; rw [Nat.add_sub_cancel, hv.out]; exact hlt'))
              clear HTK HO3 HBQ hz hge
              go_wp2_with (first | (go_at_call 17; refine htk.mono ?_; rintro e4 w4 ⟨⟨v4, rfl⟩, hA4⟩))
              go_meet
              case rel => exact hd hA4
        · have hk1' : (kd == 1) = false := by simpa using hk1
          by_cases hk2 : kd = 2
          · subst hk2
            have hgv := HGV.out
            clear HTK HEN HAF HGV hk1 hk1'
            go_wp2_with (first | (go_at_call 18; refine hgv.mono ?_; rintro e4 w4 ⟨⟨v4, rfl⟩, hA4⟩))
            go_meet
            case rel => exact hd hA4
          · have hk2' : (kd == 2) = false := by simpa using hk2
            have hen := HEN.out
            clear HTK HEN HAF HGV hk1 hk2
            go_wp2_with (first | (go_at_call 19; refine hen.mono ?_; rintro e4 w4 ⟨⟨v4, rfl⟩, hA4⟩))
            go_meet
            case rel => exact hd hA4
      case rest =>
        obtain ⟨os', qs', hA⟩ := hcut.out
        have HA := hd hA
        obtain ⟨F', hk', hF', hbw⟩ := hA.liv
        have hst2 := state_any hk' (by have := hA.tot; omega)
        rw [hA.len] at hst2
        have hgd' := hk'.good
        have hri' := hA.rise
        have HGD' := hd hgd'
        clear hcut hA hk' hF' hgd' hri' HK2 HAF HLQ z0 z1 z2 HL
        go_upto_region 18 with (first | (go_at_call 15; refine hst2.mono ?_; rintro e5 w5 ⟨a3, c3, a4, c4, es2, rfl, hT2⟩))
        have hbl : Below w.heap.size w w5 := hbw.trans (hT2.bel.mono hbw.size)
        have HBL := hd hbl
        have HT2 := hd hT2
        have HEL : Hid (es1.length = n) := hd (by rw [← qsOf_len, HQ1.out, HGD.out.n, HOL.out])
        have HCC : Hid (∀ W, Below w5.heap.size w5 W → ∀ k, k < n → (∃ g, a3 = some ⟨g, 0, none⟩ ∧ W.cell? ⟨g, k, none⟩ = some (.int .i64 (oAt os' k))) ∧ (∃ g, a4 = some ⟨g, 0, none⟩ ∧ W.cell? ⟨g, k, none⟩ = some (.slice (eAt es2 k).1 (qAt qs' k).length (eAt es2 k).2.1)) ∧ (∃ g o, a1 = some ⟨g, o, none⟩ ∧ W.cell? ⟨g, o + k, none⟩ = some (.int .i64 (oAt os k))) ∧ (∃ g o, a2 = some ⟨g, o, none⟩ ∧ W.cell? ⟨g, o + k, none⟩ = some (.slice (eAt es1 k).1 (qAt qs k).length (eAt es1 k).2.1)) ∧ Rd W (eAt es1 k).1 (iC (qAt qs k)) ∧ W.cell? ⟨G, 0, none⟩ = some (.int .i64 kd) ∧ W.cell? ⟨G, 1, none⟩ = some (.int .i64 lk) ∧ W.cell? ⟨G, 2, none⟩ = some (.int .i64 pp)) := hd (fun W hb k hk => by
          have hT := HT2.out
          have hbb := hT.bel.trans (hb.mono hT.bel.size)
          have hA := HA.out
          have hGw : G < _ := World.block_lt_of_cell? _ _ hA.b0
          refine ⟨?_, ?_, ?_, ?_, ?_, (hbb.cell (p := ⟨G, 0, none⟩) hGw).trans hA.b0, (hbb.cell (p := ⟨G, 1, none⟩) hGw).trans hA.b1, (hbb.cell (p := ⟨G, 2, none⟩) hGw).trans hA.b2⟩
          · obtain ⟨g, e, h⟩ := (hT.own.below hb).cell k (by rw [hA.len]; omega)
            exact ⟨g, e, by rw [h, iC_at os' k (by rw [hA.len]; exact hk) (-1)]; rfl⟩
          · have hl2 : es2.length = n := by rw [← qsOf_len, hT.qs, HGD'.out.n, hA.len]
            obtain ⟨g, e, h, -⟩ := (hT.ql.below hb).cell k (by rw [hl2]; exact hk)
            have e3 : qAt qs' k = (eAt es2 k).2.2 := by rw [← hT.qs, qAt_of]
            rw [e3]
            exact ⟨g, e, h⟩
          · obtain ⟨g, o, e, h⟩ := (hA.was.below hbb).int k (by rw [HOL.out]; exact hk)
            refine ⟨g, o, e, ?_⟩
            rw [h]
            unfold oAt
            rw [List.getD_eq_getElem?_getD, List.getD_eq_getElem?_getD, List.getElem?_eq_getElem (by rw [HOL.out]; exact hk)]
            rfl
          · have e3 : qAt qs k = (eAt es1 k).2.2 := by rw [← HQ1.out, qAt_of]
            obtain ⟨g, o, e, h⟩ := (hA.ahead.below hbb).at' k (by rw [HEL.out]; exact hk)
            rw [e3]
            exact ⟨g, o, e, h⟩
          · have e3 : qAt qs k = (eAt es1 k).2.2 := by rw [← HQ1.out, qAt_of]
            rw [e3]
            exact (hA.ahead.below hbb).qs k (by rw [HEL.out]; exact hk))
        have HNO := hd HA.out.now
        have HFR : Hid (∀ k, oAt os' k = -1 → (qAt qs' k).length = 0) := hd (fun k hk => by rw [HA.out.rise.free k hk]; rfl)
        have HQS : Hid (∀ k, (qAt qs k).length ≤ 1000000 ∧ (qAt qs' k).length ≤ 1000000) := hd (fun k => ⟨Nat.le_trans (total_le k) (by have := HTT.out; omega), Nat.le_trans (total_le k) (by have := HA.out.tot; omega)⟩)
        have HLV : Hid (∀ W, Below w5.heap.size w5 W → Liv w W b os' qs') := hd (fun W hb => (HA.out.liv.below HT2.out.bel).below hb)
        have HST : Hid (∀ W, Below w5.heap.size w5 W → Calls Try.prog 20 #[.slice a3 n c3, .slice a4 n c4] W fun e w' => e = .returned (.bool true) ∧ ∃ os qs, Liv w w' b os qs ∧ Rise os qs ∧ os.length = n ∧ total qs ≤ i + 1) := hd (fun W hb => by
          have hT := HT2.out
          have hown := (hT.own.below hb).rd
          have hql := hT.ql.below hb
          refine (straight_any (c1 := c3) (c2 := c4) hown ⟨hql.row.rd, fun i hi => (hql.qs i (Nat.zero_le _) hi).rd⟩ (hd HA.out.len) hT.qs HGD'.out HA.out.rise (by have := HA.out.tot; omega)).mono ?_
          rintro e w' ⟨rfl, hb2⟩
          exact ⟨rfl, os', qs', (HLV.out W hb).below hb2, HA.out.rise, HA.out.len, HA.out.tot⟩)
        have hne : ((n : Int) != (n : Int)) = false := by simp
        have HS5 : Hid (Below w5.heap.size w5 w5) := hd (below_same _)
        clear hst2 hT2 hbl HT2 HA hbw HBL HGD' HGD HRI HOL HTT HQ1 HEL HB2 HGL
        go_wp2_with fail
        go_loopg [14, 113, 114, 115, 116, 117, 118, 119, 120, 121, 122, 123, 124, 125, 126, 127, 128, 129, 130, 131, 132, 133, 134, 135, 136, 137, 138, 139, 140, 141, 142, 143, 144, 145, 146, 147, 148, 149, 150, 151, 152, 153, 154, 155, 156, 157, 158, 159, 160, 161, 162, 163, 164, 165, 166, 167, 168, 169, 170, 171, 172, 173, 174, 175, 176, 177, 178, 179, 180, 181, 182, 183, 184, 185, 186, 187, 188, 189, 190, 191, 192, 193, 194, 195, 196] n (fun j v14 v113 v114 v115 v116 v117 v118 v119 v120 v121 v122 v123 v124 v125 v126 v127 v128 v129 v130 v131 v132 v133 v134 v135 v136 v137 v138 v139 v140 v141 v142 v143 v144 v145 v146 v147 v148 v149 v150 v151 v152 v153 v154 v155 v156 v157 v158 v159 v160 v161 v162 v163 v164 v165 v166 v167 v168 v169 v170 v171 v172 v173 v174 v175 v176 v177 v178 v179 v180 v181 v182 v183 v184 v185 v186 v187 v188 v189 v190 v191 v192 v193 v194 v195 v196 wr => ∃ k : Nat, k + j = n ∧ v14 = .int .i64 (k : Int) ∧ Hid (Below w5.heap.size w5 wr))
        case atStart => exact ⟨0, by omega, by go_num, HS5⟩
        case round =>
          as_aux_lemma =>
            obtain ⟨k, hkj, rfl, HBR⟩ := hrel
            clear HS5
            by_cases h0 : gk = 0
            · subst h0
              have hk : k = n := by omega
              subst hk
              have hst := HST.out wr HBR.out
              clear hkj HCC HNO HFR HQS HLV HST HBR
              go_wp2_with (first | (go_at_call 20; refine hst.mono ?_; rintro e6 w6 ⟨rfl, hx6⟩))
              go_roundg (ln - (i + 1))
              case rel => exact ⟨i + 1, by omega, by omega, by go_num, hd hx6⟩
              case measure => omega
            · have hlt : k < n := by omega
              obtain ⟨⟨g3, rfl, x3⟩, ⟨g4, rfl, x4⟩, ⟨g1, o1, rfl, x1⟩, ⟨g2, o2, rfl, x2⟩, hrd, b0, b1, b2⟩ := HCC.out wr HBR.out k hlt
              have hno := HNO.out k
              have hfr := HFR.out k
              obtain ⟨hq1, hq2⟩ := HQS.out k
              unfold NowOk at hno
              have HE : Hid (∀ q, Below w5.heap.size w5 (wr.drewN q)) := hd (fun q => below_drewN HBR.out q)
              obtain ⟨l2, hl2⟩ : ∃ l2, Hid ((qAt qs' k).length = l2) := ⟨_, rfl⟩
              obtain ⟨l1, hl1⟩ : ∃ l1, Hid ((qAt qs k).length = l1) := ⟨_, rfl⟩
              have HRD : Hid (0 < l1 → ∃ gx ox, (eAt es1 k).1 = some ⟨gx, ox, none⟩ ∧ wr.cell? ⟨gx, ox, none⟩ = some (.int .i64 ((qAt qs k).getD 0 0))) := hd (fun h => hrd.int 0 (by rw [hl1.out]; exact h))
              rw [hl2.out] at x4 hfr hq2
              rw [hl1.out] at x2 hno hq1
              obtain ⟨nv, hnv⟩ : ∃ nv, Hid (oAt os' k = nv) := ⟨_, rfl⟩
              obtain ⟨wv, hwv⟩ : ∃ wv, Hid (oAt os k = wv) := ⟨_, rfl⟩
              obtain ⟨hv, hhv⟩ : ∃ hv, Hid ((qAt qs k).getD 0 0 = hv) := ⟨_, rfl⟩
              rw [hnv.out] at x3 hno hfr
              rw [hwv.out] at x1 hno
              rw [hhv.out] at hno HRD
              clear HCC HNO HFR HQS HLV HST HBR hrd h0 hnv hwv hhv hl1 hl2
              by_cases hn1 : nv = -1
              · have hl0 : l2 = 0 := hfr hn1
                subst hn1 hl0
                clear hno hfr HRD
                by_cases hw1 : wv = -1
                · subst hw1
                  go_upto_region 25 with fail
                  simp only [List.append]
                  go_quiet (fail)
                  go_wp2_with fail
                  go_roundg (gk - 1)
                  case rel => exact ⟨k + 1, by omega, by go_num, hd (HE.out _)⟩
                  case measure => omega
                · have hw1' : ((-1 : Int) != wv) = true := by simpa using (fun e => hw1 e.symm)
                  clear hw1
                  go_upto_region 25 with fail
                  simp only [List.append]
                  go_quiet (fail)
                  go_wp2_with fail
                  go_roundg (gk - 1)
                  case rel => exact ⟨k + 1, by omega, by go_num, hd (HE.out _)⟩
                  case measure => omega
              · have hn1' : (nv == -1) = false := by simpa using hn1
                have hn1'' : (nv != -1) = true := by simpa using hn1
                by_cases hnw : nv = wv
                · subst hnw
                  clear hno hfr HRD hn1
                  go_upto_region 25 with fail
                  simp only [List.append]
                  go_quiet (fail)
                  go_wp2_with fail
                  go_roundg (gk - 1)
                  case rel => exact ⟨k + 1, by omega, by go_num, hd (HE.out _)⟩
                  case measure => omega
                · have hnw' : (nv != wv) = true := by simpa using hnw
                  by_cases h3 : wv = -1 ∧ kd = 1 ∧ lk = (k : Int) ∧ nv = pp
                  · obtain ⟨rfl, rfl, rfl, rfl⟩ := h3
                    clear hno hfr HRD hn1 hnw
                    go_upto_region 25 with fail
                    simp only [List.append]
                    go_quiet (fail)
                    go_wp2_with fail
                    go_roundg (gk - 1)
                    case rel => exact ⟨k + 1, by omega, by go_num, hd (HE.out _)⟩
                    case measure => omega
                  · have h4 : 0 < l1 ∧ hv = nv := by
                      rcases hno with h | h | ⟨p1, p2, p3, p4⟩ | h
                      · exact absurd h hnw
                      · exact absurd h hn1
                      · exact absurd ⟨p1, by simpa using p2, p3, p4⟩ h3
                      · exact h
                    obtain ⟨h5, rfl⟩ := h4
                    obtain ⟨gx, ox, hax, cx⟩ := HRD.out h5
                    rw [hax] at x2
                    by_cases q1 : wv = -1
                    · by_cases q2 : kd = 1
                      · by_cases q3 : lk = (k : Int)
                        · have q4 : (hv == pp) = false := by
                            have : ¬ hv = pp := fun e => h3 ⟨q1, q2, q3, e⟩
                            simpa using this
                          subst q1 q2 q3
                          clear hno hfr HRD hn1 hnw h3 hax
                          go_upto_region 25 with fail
                          simp only [List.append]
                          go_quiet (fail)
                          go_wp2_with fail
                          go_roundg (gk - 1)
                          case rel => exact ⟨k + 1, by omega, by go_num, hd (HE.out _)⟩
                          case measure => omega
                        · have q3' : (lk == (k : Int)) = false := by simpa using q3
                          subst q1 q2
                          clear hno hfr HRD hn1 hnw h3 hax q3
                          go_upto_region 25 with fail
                          simp only [List.append]
                          go_quiet (fail)
                          go_wp2_with fail
                          go_roundg (gk - 1)
                          case rel => exact ⟨k + 1, by omega, by go_num, hd (HE.out _)⟩
                          case measure => omega
                      · have q2' : (kd == 1) = false := by simpa using q2
                        subst q1
                        clear hno hfr HRD hn1 hnw h3 hax q2
                        go_upto_region 25 with fail
                        simp only [List.append]
                        go_quiet (fail)
                        go_wp2_with fail
                        go_roundg (gk - 1)
                        case rel => exact ⟨k + 1, by omega, by go_num, hd (HE.out _)⟩
                        case measure => omega
                    · have q1' : (wv == -1) = false := by simpa using q1
                      clear hno hfr HRD hn1 hnw h3 hax q1
                      go_upto_region 25 with fail
                      simp only [List.append]
                      go_quiet (fail)
                      go_wp2_with fail
                      go_roundg (gk - 1)
                      case rel => exact ⟨k + 1, by omega, by go_num, hd (HE.out _)⟩
                      case measure => omega
    · have hd2 : ¬ ((i : Int) < (ln : Int) ∧ (i : Int) < 3000) := by omega
      have HB := hd hL.bel
      have hfx := HFX.out wr hL.bel
      clear HX hL hRi hol htt HR HF
      by_cases h1 : i < ln
      · have h2 : i = 3000 := by omega
        subst h2
        clear hd2 h0
        go_wp2_with (first | (go_at_call 7; refine hfx.mono ?_; rintro e4 w4 ⟨rfl, b4⟩))
        go_ret
        exact ⟨rfl, b4⟩
      · have h2 : i = ln := by omega
        subst h2
        clear hd2 h0 h1
        go_wp2_with (first | (go_at_call 7; refine hfx.mono ?_; rintro e4 w4 ⟨rfl, b4⟩))
        go_ret
        exact ⟨rfl, b4⟩
end Go.Proofs.Ytdihbbpndijdoaa
