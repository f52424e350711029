/- GraphRings, walked. -/
import Derived.Test.YtcmcapddijpidaaGR4
namespace Go.Proofs.Ytcmcapddijpidaa
open Go.RowKit Go.Maps

theorem Rd.ahead {w : World} {a : Option Addr} {xs ys : List Value} (h : Rd w a (xs ++ ys)) : Rd w a xs := fun j u hj => h j u (by
  rw [List.getElem?_append_left (List.getElem?_eq_some_iff.1 hj).1]; exact hj)
/-- Whom the law has met: the first i of a ring. -/
def metF (l : List Int) (i : Nat) : Fn := fun x => if x ∈ l.take i then some 1 else none
theorem met_next {l : List Int} {i : Nat} (hi : i < l.length) (x : Int) : (if x = l.getD i 0 then some 1 else metF l i x) = metF l (i + 1) x := by
  have e : l.take (i + 1) = l.take i ++ [l.getD i 0] := by
    rw [List.take_succ_eq_append_getElem hi, List.getD_eq_getElem?_getD, List.getElem?_eq_getElem hi]; rfl
  unfold metF
  rw [e]
  by_cases h : x = l.getD i 0
  · rw [if_pos h, if_pos (by simp [h])]
  · rw [if_neg h]
    rw [List.getD_eq_getElem?_getD] at h
    simp [h]
/-- What a ring is, by its places. -/
theorem ring_at {f : Fn} {l : List Int} (h : RingIs f l) {i : Nat} (hi : i < l.length) :
    f (l.getD i 0) = some (l.getD ((i + 1) % l.length) 0) ∧ l.getD i 0 ∉ l.take i ∧ l.getD 0 0 ≤ l.getD i 0 := by
  rcases h.ok with rfl | ⟨m, k, t, rfl, hm⟩
  · cases hi
  · rw [tl_len] at hi ⊢
    have hr : (i + 1) % k < k := Nat.mod_lt _ t.1
    rw [tl_at hi, tl_at hr, tl_at t.1]
    refine ⟨?_, ?_, hm i hi⟩
    · rw [t.next hi]
      by_cases e : i + 1 < k
      · rw [Nat.mod_eq_of_lt e]
      · have e2 : i + 1 = k := by omega
        rw [e2, Nat.mod_self, t.end, vv_zero]
    · intro hx
      have hnd := t.nodup
      rw [List.mem_take_iff_getElem] at hx
      obtain ⟨j, hj, e⟩ := hx
      rw [tl_len] at hj
      simp only [tl, List.getElem_map, List.getElem_range] at e
      have := t.inj (by omega) hi e
      omega
theorem graphRings_long {w : World} {a : Option Addr} {n cp : Nat} (h8 : 1048576 < n) : Calls Try.prog 4 #[.slice a n cp] w fun x w' => x = .returned (.bool true) ∧ Below w.heap.size w w' := by
  have hn' : decide ((1048576 : Int) < (n : Int)) = true := by simpa using (by omega : (1048576 : Int) < (n : Int))
  have h1 := fixed_any w
  go_enter Try.func4, Try.ntmps4
  go_wp2_with (first | (go_at_call 5; refine h1.mono ?_; rintro x1 w1 ⟨rfl, b1⟩))
  go_ret
  exact ⟨rfl, b1⟩
theorem make_two (n : Nat) (h8 : n ≤ 1048576) (W : World) : ∃ zs : Array Value, zs.size = (n + 2) * 2 ∧ (Instr.makeSlice 23 (.int .i64 0) (.int .i64 ((n : Int) + 2))).run Try.prog W = .ok (.slice (some ⟨W.heap.size, 0, none⟩) 0 (n + 2)) (W.alloc (.cells zs 24)) := by
  obtain ⟨i, h1, h2, h3, h4⟩ := info_parts infoE
  have hr := run_make (P := Try.prog) W 23 24 i _ Try.underlying23 h1 h2 .i64 .i64 0 ((n : Int) + 2) (by omega) (by omega) (by rw [h4]; omega) (by omega)
  rw [h3] at hr
  have e : ((n : Int) + 2).toNat = n + 2 := by omega
  rw [e] at hr
  exact ⟨_, by simp [madeCells, Value.cells], hr⟩

set_option maxRecDepth 100000 in
set_option maxHeartbeats 8000000 in
theorem graphRings_main {w : World} {a : Option Addr} {n cp : Nat} {e : Es} (hR : Rd w a (wC e)) (hF : FitE e) (hN : Hid (e.length = n)) (h8 : n ≤ 1048576) :
    Calls Try.prog 4 #[.slice a n cp] w fun x w' => x = .returned (.bool true) ∧ Below w.heap.size w w' := by
  have hn' : decide ((1048576 : Int) < (n : Int)) = false := by simpa using (by omega : ¬ (1048576 : Int) < (n : Int))
  have HR := hd hR
  have HF := hd hF
  obtain ⟨zs, hzs, hmk⟩ := make_two n h8 w
  obtain ⟨a1, c1, w1, hA1, o1⟩ := copy_all (c := cp) hR hN.out (by omega) hzs
  obtain ⟨a2, c2, w2, hA2, o2, g, rfl, hc2⟩ := o1.two hN.out (by omega)
  have hA1 := hd hA1
  have hA2 := hd hA2
  have HB2 := hd o2.bel
  have HR2 : Hid (Rd w2 (some ⟨g, 0, none⟩) (wC e)) := hd (by have := o2.row.rd; rw [wC_app] at this; exact this.ahead)
  have hf4 := rring_any (cp := cp) (hR.below HB2.out) hF hN h8
  clear hR hF o1 o2 hzs
  go_enter Try.func4, Try.ntmps4
  go_upto_region 4 with (at_builtin; refine wpList_append_run rfl _ _ _ rfl _ _ _ _ rfl rfl hA1.out ?_; clear hA1)
  clear hmk
  go_upto_region 5 with (at_builtin; refine wpList_append_run rfl _ _ _ rfl _ _ _ _ rfl rfl hA2.out ?_; clear hA2)
  go_upto_region 6 with (go_at_call 6; refine hf4.mono ?_; rintro x3 w3 ⟨l, i1, a3, c3, rfl, o3⟩)
  clear hf4
  have hf5 := ring_any (cp := c2) (HR2.out.below o3.bel) HF.out hN h8
  go_upto_region 7 with (go_at_call 7; refine hf5.mono ?_; rintro x4 w4 ⟨l4, i4, a4, c4, rfl, o4⟩)
  obtain rfl := i1.det i4
  clear hf5 i4
  have hf6 := ring_any (cp := c2) (HR2.out.below (o3.bel.trans (o4.bel.mono o3.bel.size))) HF.out hN h8
  go_upto_region 8 with (go_at_call 7; refine hf6.mono ?_; rintro x5 w5 ⟨l5, i5, a5, c5, rfl, o5⟩)
  obtain rfl := i1.det i5
  clear hf6 i5
  have HI := hd i1
  have H3 := hd (o3.below (o4.bel.trans (o5.bel.mono o4.bel.size)))
  have H4 := hd (o4.below o5.bel)
  have H5 := hd o5
  have HZ3 : Hid (∀ k, blk a3 = some k → k < w3.heap.size) := hd o3.row.lt
  have HZ4 : Hid (∀ k, blk a4 = some k → k < w4.heap.size) := hd o4.row.lt
  have HB5 : Hid (Below w2.heap.size w2 w5) := hd H3.out.bel
  have HSW : Hid (w.heap.size ≤ w3.heap.size) := hd (Nat.le_trans HB2.out.size o3.bel.size)
  obtain ⟨nl, hnl⟩ : ∃ nl, Hid (l.length = nl) := ⟨_, rfl⟩
  have hnlb : nl ≤ 6000000 := by
    rw [← hnl.out]
    rcases i1.ok with h | ⟨m, k, h1, h2, h3⟩
    · rw [h]; decide
    · rw [h2, tl_len]
      have h4 := h1.le (U := ends e) (fun x q h => (ends_nxs h).2)
      rw [ends_len, hN.out] at h4
      omega
  rw [hnl.out]
  clear i1 o3 o4 o5
  have hi1 := fun W (hb : Below w5.heap.size w5 W) => ints_yes (ca := c4) (cb := c3) (H4.out.row.rd.below hb) (H3.out.row.rd.below hb) hnl (by omega)
  have hi2 := fun W (hb : Below w5.heap.size w5 W) => ints_yes (ca := c5) (cb := c3) (H5.out.row.rd.below hb) (H3.out.row.rd.below hb) hnl (by omega)
  have hi3 := fun W (hb : Below w5.heap.size w5 W) => edges_yes (ca := c2) (cb := cp) ((HR2.out.below HB5.out).below hb) (((HR.out.below HB2.out).below HB5.out).below hb) hN (by omega)
  go_upto_region 10 with (first
    | (go_at_call 9; refine (hi3 w7 b7).mono ?_; rintro x8 w8 ⟨rfl, b8⟩)
    | (go_at_call 8; refine (hi2 w6 b6).mono ?_; rintro x7 w7 ⟨rfl, b7'⟩; have b7 := b6.trans (b7'.mono b6.size); clear b7')
    | (go_at_call 8; refine (hi1 w5 (Below.refl _ _)).mono ?_; rintro x6 w6 ⟨rfl, b6⟩))
  have B8 : Below w5.heap.size w5 w8 := b7.trans (b8.mono b7.size)
  have HB8 := hd B8
  clear hi1 hi2 hi3 b6 b7 b8 B8
  go_upto_region 11 with fail
  obtain ⟨a9, ha9⟩ : ∃ A, Hid (some (⟨w8.heap.size, 0, none⟩ : Addr) = A) := ⟨_, rfl⟩
  obtain ⟨w9, hw9⟩ : ∃ W, Hid (w8.alloc (.cells #[] 24) = W) := ⟨_, rfl⟩
  have HE9 : Hid (OwnE w8 w9 a9 0 []) := hd (by rw [← hw9.out, ← ha9.out]; exact OwnE.empty)
  rw [hw9.out]
  try simp only [ha9.out]
  clear hw9 ha9
  go_wp2_with fail
  go_loopg [7, 8, 60, 61, 62, 63, 64, 65, 66, 67, 68, 69, 70] n (fun k v7 v8 v60 v61 v62 v63 v64 v65 v66 v67 v68 v69 v70 wr => ∃ (z : Int) (j cB : Nat) (aB : Option Addr), v8 = .int .i64 z ∧ v7 = .slice aB j cB ∧ j + k = n ∧ Hid (z = (k : Int) - 1) ∧ Hid (OwnE w8 wr aB cB ((e.drop k).reverse)))
  case atStart => exact ⟨_, 0, 0, a9, rfl, rfl, by omega, hd rfl, hd (by rw [List.drop_of_length_le (by rw [hN.out]; exact Nat.le_refl _)]; exact HE9.out)⟩
  case round =>
    obtain ⟨z, j, cB, aB, rfl, rfl, hjk, hz, HX⟩ := hrel
    clear HE9
    by_cases h0 : gk = 0
    · subst h0
      obtain rfl : z = -1 := by rw [hz.out]; rfl
      obtain rfl : j = n := by omega
      have HXE := hd HX.out
      have HB10 : Hid (Below w5.heap.size w5 wr) := hd (HB8.out.trans (HX.out.bel.mono HB8.out.size))
      have hrg := ring_any (cp := cB) (n := j) (e := e.reverse) (by have := HX.out.row.rd; rw [List.drop_zero] at this; exact this) (fun x hx => HF.out x (by simpa using hx)) (hd (by rw [List.length_reverse, hN.out])) h8
      have HI15 : Hid (∀ W, Below wr.heap.size wr W → ∀ aR cR, Own wr W aR cR l → Calls Try.prog 8 #[.slice aR nl cR, .slice a3 nl c3] W fun x w' => x = .returned (.bool true) ∧ Below W.heap.size W w') := hd (fun W hb aR cR ho => ints_yes ho.row.rd ((H3.out.row.rd.below HB10.out).below hb) hnl (by omega))
      clear HX HXE hz
      go_upto_region 17 with (first
        | (go_at_call 8; refine hi15.mono ?_; rintro x11 w11 ⟨rfl, b11⟩)
        | (go_at_call 7; refine hrg.mono ?_; rintro x10 w10 ⟨l9, i9, aR, cR, rfl, o9⟩; rw [nxs_reverse] at i9; obtain rfl := HI.out.det i9; rw [hnl.out]; have hi15 := HI15.out w10 o9.bel aR cR o9; have HB11 := hd o9.bel; clear i9 o9))
      have HB12 : Hid (Below w5.heap.size w5 w11) := hd (HB10.out.trans ((HB11.out.trans (b11.mono HB11.out.size)).mono HB10.out.size))
      clear hrg hi15 HI15 HB11 b11 HB10
      have hnx := rnext_any (cp := cp) (((HR.out.below HB2.out).below HB5.out).below HB12.out) HF.out hN (by omega)
      go_upto_region 18 with (go_at_call 10; refine hnx.mono ?_; rintro x12 w12 ⟨m, c, rfl, m1, m2, m3, m4⟩)
      have HB13 : Hid (Below w5.heap.size w5 w12) := hd (HB12.out.trans (m3.mono HB12.out.size))
      have HM := hd m4
      clear hnx m1 m2 m3 m4 HB12
      have hmm : ∀ W : World, (Instr.makeMap 29 none).run Try.prog W = .ok (.map (some W.heap.size)) (W.alloc (.map #[] 0)) := fun W => rfl
      go_upto_region 19 with fail
      obtain ⟨mm, hmmn⟩ : ∃ mm, Hid (w12.heap.size = mm) := ⟨_, rfl⟩
      obtain ⟨w13, hw13⟩ : ∃ W, Hid (w12.alloc (.map #[] 0) = W) := ⟨_, rfl⟩
      have HMT : Hid (Below w12.heap.size w12 w13 ∧ MapAt w13 mm (metF l 0) 0) := hd ⟨by rw [← hw13.out]; exact below_al w12 _, by
        have := (MapAt.new w12).congr (f' := metF l 0) (fun x => by unfold metF; simp)
        rw [hw13.out, hmmn.out] at this
        exact this⟩
      have HMS : Hid (w12.heap.size ≤ mm) := hd (by rw [hmmn.out]; exact Nat.le_refl _)
      try simp only [hw13.out, hmmn.out]
      clear hmm hw13 hmmn
      go_wp2_with fail
      go_loopg [11, 12, 13, 79, 80, 81, 82, 83, 84, 85, 86, 87, 88, 89, 90, 91, 92, 93, 94, 95, 96, 97, 98, 99, 100, 101, 102, 103, 104, 105, 106, 107, 108, 109, 110, 111, 112, 113, 114, 115, 116, 117, 118, 119, 120, 121, 122, 123, 124, 125, 126, 127, 128, 129, 130, 131, 132, 133] nl (fun k v11 v12 v13 v79 v80 v81 v82 v83 v84 v85 v86 v87 v88 v89 v90 v91 v92 v93 v94 v95 v96 v97 v98 v99 v100 v101 v102 v103 v104 v105 v106 v107 v108 v109 v110 v111 v112 v113 v114 v115 v116 v117 v118 v119 v120 v121 v122 v123 v124 v125 v126 v127 v128 v129 v130 v131 v132 v133 wr => ∃ i : Nat, i + k = nl ∧ v11 = .int .i64 (i : Int) ∧ Hid (Below w12.heap.size w12 wr ∧ MapAt wr mm (metF l i) i))
      case atStart => exact ⟨0, by omega, by go_num, HMT⟩
      case round =>
        obtain ⟨i, hik, rfl, HX⟩ := hrel
        clear HMT
        by_cases h0 : gk = 0
        · subst h0
          obtain rfl : i = nl := by omega
          have HB14 : Hid (Below w5.heap.size w5 wr) := hd (HB13.out.trans (HX.out.1.mono HB13.out.size))
          clear HX HM HMS
          obtain ⟨wL, rfl⟩ : ∃ W, W = wr := ⟨_, rfl⟩
          have HR4 : Hid (∃ l' : List Int, l'.length = i ∧ Row wL 3 1 a4 i c4 (iC l') ∧ Mod (fun k => blk a4 = some k) wL wL) := hd ⟨l, hnl.out, by have := H4.out.row.below HB14.out; rwa [hnl.out] at this, Mod.refl _ _⟩
          go_wp2_with fail
          go_loopg [14, 134, 135, 136, 137, 138, 139, 140, 141, 142] i (fun k v14 v134 v135 v136 v137 v138 v139 v140 v141 v142 wr => ∃ q : Nat, q + k = i ∧ v14 = .int .i64 (q : Int) ∧ Hid (∃ l' : List Int, l'.length = i ∧ Row wr 3 1 a4 i c4 (iC l') ∧ Mod (fun k => blk a4 = some k) wL wr))
          case atStart => exact ⟨0, by omega, by go_num, HR4⟩
          case round =>
            obtain ⟨q, hqk, rfl, HX⟩ := hrel
            clear HR4
            by_cases h0 : gk = 0
            · subst h0
              obtain rfl : q = i := by omega
              have HA4 : Hid (∃ l' : List Int, l'.length = q ∧ Row wr 3 1 a4 q c4 (iC l') ∧ Mod (fun k => blk a4 = some k) wL wr ∧ ∀ k, blk a4 = some k → blk a4 = some k ∨ wL.heap.size ≤ k) := hd (by
                obtain ⟨l', x1, x2, x3⟩ := HX.out
                exact ⟨l', x1, x2, x3, fun k hk => .inl hk⟩)
              clear HX hqk
              go_wp2_with fail
              go_loopg [5, 15, 143, 144, 145, 146, 147, 148, 149] 9 (fun k v5 v15 v143 v144 v145 v146 v147 v148 v149 wr => ∃ (t nn cc : Nat) (aa : Option Addr), t + k = 9 ∧ v15 = .int .i64 (t : Int) ∧ v5 = .slice aa nn cc ∧ Hid (nn = q + t) ∧ Hid (∃ l' : List Int, l'.length = nn ∧ Row wr 3 1 aa nn cc (iC l') ∧ Mod (fun k => blk a4 = some k) wL wr ∧ ∀ k, blk aa = some k → blk a4 = some k ∨ wL.heap.size ≤ k))
              case atStart => exact ⟨0, q, c4, a4, by omega, by go_num, rfl, hd rfl, HA4⟩
              case round =>
                obtain ⟨t, nn, cc, aa, htk, rfl, rfl, hnn, HX⟩ := hrel
                clear HA4
                by_cases h0 : gk = 0
                · subst h0
                  obtain rfl : t = 9 := by omega
                  have HMD : Hid (Mod (fun k => blk a4 = some k) wL wr) := hd (by obtain ⟨l', x1, x2, x3, x4⟩ := HX.out; exact x3)
                  have hnw := H4.out.new
                  have hlt4 := H4.out.row.lt
                  have HBZ : Hid (Below w.heap.size w wr) := hd (by
                    have h1 := HB2.out.trans ((HB5.out.trans (HB14.out.mono HB5.out.size)).mono HB2.out.size)
                    refine h1.trans (HMD.out.below h1.size (fun k _ hk => ?_))
                    have := hnw k hk
                    have := HSW.out
                    omega)
                  have hR5 : Rd wr a5 (iC l) := ((H5.out.row.rd.below HB14.out).mod (fun k hk _ e => by
                    have h1 := H5.out.new k hk
                    have h2 := HZ4.out k e
                    omega) HMD.out)
                  have hR3 : Rd wr a3 (iC l) := ((H3.out.row.rd.below HB14.out).mod (fun k hk _ e => by
                    have h1 := H4.out.new k e
                    have h2 := HZ3.out k hk
                    omega) HMD.out)
                  have hy1 := ints_yes (ca := c5) (cb := c3) hR5 hR3 hnl (by omega)
                  have hfx := fun W => fixed_any W
                  clear HX hR5 hR3 hnw hlt4 HMD
                  go_wp2_with (first
                    | (go_at_call 5; refine (hfx _).mono ?_; rintro x31 w31 ⟨rfl, b31⟩)
                    | (go_at_call 8; refine hy1.mono ?_; rintro x30 w30 ⟨rfl, b30⟩))
                  go_ret
                  exact ⟨rfl, HBZ.out.trans ((b30.trans (b31.mono b30.size)).mono HBZ.out.size)⟩
                · obtain ⟨aY, cY, w20, hap, HE⟩ : ∃ aY cY w20, Hid (∀ ty, (Builtin.append_ #[25, 25] ty #[.slice aa nn cc, .slice (some ⟨wr.heap.size, 0, none⟩) 1 1]).run Try.prog (wr.alloc (.cells #[.int .i64 (-9)] 3)) = .ok (.slice aY (nn + 1) cY) w20) ∧ Hid (∃ l' : List Int, l'.length = nn + 1 ∧ Row w20 3 1 aY (nn + 1) cY (iC l') ∧ Mod (fun k => blk a4 = some k) wL w20 ∧ ∀ k, blk aY = some k → blk a4 = some k ∨ wL.heap.size ≤ k) := by
                    obtain ⟨l', x1, x2, x3, x4⟩ := HX.out
                    obtain ⟨a', c', w', p1, p2, p3, p4⟩ := push_any (T := 25) Try.underlying25 infoN rfl x2 (by have := hnn.out; unfold maxLen; omega) (by have := hnn.out; omega) [.int .i64 (-9)] rfl (by simp [Value.oneCell'])
                    refine ⟨a', c', w', hd p1, hd ⟨l' ++ [-9], by rw [List.length_append, x1]; rfl, by rw [iC_app]; exact p2, x3.trans p3 (fun k hk => x4 k hk), fun k hk => ?_⟩⟩
                    rcases p4 k hk with h | h
                    · exact x4 k h
                    · exact .inr (Nat.le_trans x3.size h)
                  have ht9 : (t : Int) < 9 := by omega
                  clear HX h0
                  go_wp2_with (first | (at_builtin; refine wpList_append_run rfl _ _ _ rfl _ _ _ _ rfl rfl hap.out ?_; clear hap))
                  go_roundg (gk - 1)
                  case rel => exact ⟨t + 1, nn + 1, cY, aY, by omega, by go_num, rfl, hd (by have := hnn.out; omega), HE⟩
                  case measure => omega
            · have hlt : q < i := by omega
              obtain ⟨gg, rfl, cq, fq, HE⟩ : ∃ gg, a4 = some ⟨gg, 0, none⟩ ∧ (∃ v, wr.cell? ⟨gg, q, none⟩ = some (.int .i64 v)) ∧ wr.frozen? ⟨gg, q, none⟩ = false ∧ Hid (∃ l' : List Int, l'.length = i ∧ Row (wr.setCell ⟨gg, q, none⟩ (.int .i64 (-9))) 3 1 (some ⟨gg, 0, none⟩) i c4 (iC l') ∧ Mod (fun k => blk (some (⟨gg, 0, none⟩ : Addr)) = some k) wL (wr.setCell ⟨gg, q, none⟩ (.int .i64 (-9)))) := by
                obtain ⟨l', x1, x2, x3⟩ := HX.out
                obtain ⟨gg, rfl, hc⟩ := x2.cell q (by omega)
                rw [iC_at l' q (by omega) 0] at hc
                refine ⟨gg, rfl, ⟨_, hc⟩, x2.free q gg rfl, hd ⟨l'.set q (-9), by rw [List.length_set, x1], by rw [← iC_set]; exact x2.put q _, x3.setCell (p := ⟨gg, q, none⟩) (.inl rfl) _⟩⟩
              obtain ⟨v0, cq⟩ := cq
              clear HX h0
              go_wp2_with fail
              go_roundg (gk - 1)
              case rel => exact ⟨q + 1, by omega, by go_num, HE⟩
              case measure => omega
        · have hlt : i < nl := by omega
          have hil : i < l.length := by rw [hnl.out]; exact hlt
          obtain ⟨h1, h2, h3⟩ := ring_at HI.out hil
          obtain ⟨r, hr⟩ : ∃ r, Hid ((i + 1) % nl = r) := ⟨_, rfl⟩
          have hrn : r < nl := by rw [← hr.out]; exact Nat.mod_lt _ (by omega)
          rw [hnl.out, hr.out] at h1
          have HRD : Hid (Rd wr a4 (iC l)) := hd ((H4.out.row.rd.below HB13.out).below (HX.out.1.mono (Nat.le_refl _)))
          obtain ⟨g1, o1, e1, cx⟩ := rd_num HRD.out i hil
          obtain ⟨g2, o2, e2, cy⟩ := rd_num HRD.out r (by rw [hnl.out]; exact hrn)
          obtain ⟨g3, o3, e3, cz⟩ := rd_num HRD.out 0 (by omega)
          subst e1
          cases e2
          cases e3
          obtain ⟨x, hx⟩ : ∃ x, Hid (l.getD i 0 = x) := ⟨_, rfl⟩
          obtain ⟨y, hy⟩ : ∃ y, Hid (l.getD r 0 = y) := ⟨_, rfl⟩
          obtain ⟨z, hz⟩ : ∃ z, Hid (l.getD 0 0 = z) := ⟨_, rfl⟩
          have hst0 := met_next hil
          rw [hx.out] at cx h1 h2 h3 hst0
          rw [hy.out] at cy h1
          rw [hz.out] at cz h3
          have hpf : Fit64 x := fit_ends HF.out (ends_nxs h1).1
          obtain ⟨cM, hcM⟩ : ∃ cM, MapAt wr m (nxs e) cM := ⟨_, HM.out.below HX.out.1⟩
          have hlk := hcM.look hpf
          rw [h1] at hlk
          have hl1 := HX.out.2.look1 hpf
          have hmf : metF l i x = none := by unfold metF; rw [if_neg h2]
          rw [hmf] at hl1
          obtain ⟨w14, hst, hM4, hT4⟩ := HX.out.2.store (p := x) (v := 1) hpf ⟨by decide, by decide⟩ (by omega)
          rw [hmf] at hT4
          simp only [Option.isSome_none, Bool.false_eq_true, if_false] at hT4
          have hT5 : MapAt w14 mm (metF l (i + 1)) (i + 1) := hT4.congr hst0
          have hB14 : Below w12.heap.size w12 w14 := HX.out.1.trans (hM4.below HX.out.1.size (fun k _ e => by rw [e]; exact HMS.out))
          have HT5 := hd hT5
          have HE : Hid (∀ q : Nat, Below w12.heap.size w12 (w14.drewN q) ∧ MapAt (w14.drewN q) mm (metF l (i + 1)) (i + 1)) := hd (fun q => ⟨below_drewN hB14 q, HT5.out.below (below_drewN (Below.refl _ w14) q)⟩)
          have hl2 := fun q : Nat => (HE.out q).2.look1 hpf
          rw [show metF l (i + 1) x = some 1 by rw [← hst0 x, if_pos rfl]] at hl2
          have hl2 : ∀ q : Nat, (Instr.lookup 29 (.map (some mm)) (.int .i64 x) false).run Try.prog (w14.drewN q) = .ok (.int .i64 1) (w14.drewN q) := hl2
          have hRD4 : Rd w14 (some ⟨g1, o1, none⟩) (iC l) := ((H4.out.row.rd.below HB13.out).below (hB14.mono (Nat.le_refl _)))
          obtain ⟨_, _, e1, dx⟩ := rd_num hRD4 i hil
          cases e1
          obtain ⟨_, _, e1, dy⟩ := rd_num hRD4 r (by rw [hnl.out]; exact hrn)
          cases e1
          obtain ⟨_, _, e1, dz⟩ := rd_num hRD4 0 (by omega)
          cases e1
          rw [hx.out] at dx
          rw [hy.out] at dy
          rw [hz.out, Nat.add_zero] at dz
          have hrm : Int.tmod ((i : Int) + 1) (nl : Int) = (r : Int) := by
            rw [Int.tmod_eq_emod_of_nonneg (by omega), ← hr.out]
            first | exact (Int.natCast_emod (i + 1) nl).symm | exact (Int.natCast_mod (i + 1) nl).symm | exact (Int.ofNat_emod (i + 1) nl).symm
          have hz0 : ¬ (nl : Int) = 0 := by omega
          have hz1 : ¬ nl = 0 := by omega
          have hyy : (y != y) = false := by simp
          have hxz : decide (x < z) = false := by simpa using h3
          clear HX h1 h2 h3 hst0 hmf hT4 hT5 hB14 hM4 hpf hcM hRD4 HRD h0 hx hy hz
          go_upto_region 24 with fail
          go_quiet (fail)
          go_wp2_with fail
          go_roundg (gk - 1)
          case rel => exact ⟨i + 1, by omega, by go_num, hd (HE.out nq)⟩
          case measure => omega
    · have hz' : z = ((gk - 1 : Nat) : Int) := by rw [hz.out]; omega
      obtain ⟨i, hi⟩ : ∃ i, Hid (gk - 1 = i) := ⟨_, rfl⟩
      rw [hi.out] at hz'
      subst hz'
      have hin : i < n := by have := hi.out; omega
      have hie : i < e.length := by rw [hN.out]; exact hin
      obtain ⟨g1, o1, rfl, c1, c2⟩ := rd_pair (((HR.out.below HB2.out).below HB5.out).below (HB8.out.trans (HX.out.bel.mono HB8.out.size))) i hie
      obtain ⟨x, y, hx⟩ : ∃ x y, Hid (e.getD i (0, 0) = (x, y)) := ⟨_, _, rfl⟩
      rw [hx.out] at c1 c2
      obtain ⟨a', c', w10, hap, hO⟩ := HX.out.push (by rw [List.length_reverse, List.length_drop, hN.out]; omega) x y
      have hjl : ((e.drop gk).reverse).length = j := by rw [List.length_reverse, List.length_drop, hN.out]; omega
      rw [hjl] at hap
      have hap := hd hap
      have HE : Hid (OwnE w8 w10 a' c' ((e.drop i).reverse)) := hd (by
        have e1 : e.drop i = e.getD i (0, 0) :: e.drop gk := by
          rw [List.drop_eq_getElem_cons hie, List.getD_eq_getElem?_getD, List.getElem?_eq_getElem hie]
          have : i + 1 = gk := by have := hi.out; omega
          rw [this]; rfl
        rw [e1, List.reverse_cons, hx.out]
        exact hO)
      have hgi : gk = i + 1 := by have := hi.out; omega
      clear HX hO hx hjl hie hi hz h0
      go_wp2_with (first | (at_builtin; refine wpList_append_run rfl _ _ _ rfl _ _ _ _ rfl rfl hap.out ?_; clear hap))
      go_roundg i
      case rel => exact ⟨(i : Int) - 1, j + 1, c', a', by go_num, rfl, by omega, hd rfl, HE⟩
      case measure => omega
theorem graphRings_any (a : Option Addr) (cp : Nat) (e : Es) (w : World) (hR : Rd w a (wC e)) (hF : FitE e) : Calls Try.prog 4 #[.slice a e.length cp] w fun x w' => x = .returned (.bool true) ∧ Below w.heap.size w w' := by
  by_cases h : e.length ≤ 1048576
  · exact graphRings_main hR hF (hd rfl) h
  · exact graphRings_long (by omega)
end Go.Proofs.Ytcmcapddijpidaa
