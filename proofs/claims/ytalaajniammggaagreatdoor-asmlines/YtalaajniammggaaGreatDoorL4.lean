/- AsmLines, where both texts stand. -/
import Derived.Test.YtalaajniammggaaGreatDoorL3
import Derived.Test.YtalaajniammggaaGreatDoorZAg
namespace Go.Proofs.YtalaajniammggaaGreatDoor
open Go.RowKit

theorem box_ins (w : World) (x : Ins) : InsAt (w.alloc (.cells #[.int .i64 x.op, .int .i64 x.a, .int .i64 x.b, .int .i64 x.c, .int .i64 x.imm] 37)) w.heap.size 0 x := by
  have key := fun j u h => by
    have := cells_new (w := w) (insCells x) 37 rfl j u h
    rw [addr_add] at this
    exact this
  exact ⟨key 0 _ rfl, key 1 _ rfl, key 2 _ rfl, key 3 _ rfl, key 4 _ rfl⟩

theorem ins_ne {x y : Ins} (h : ¬ x = y) : x.op ≠ y.op ∨ (x.op = y.op ∧ x.a ≠ y.a) ∨ (x.op = y.op ∧ x.a = y.a ∧ x.b ≠ y.b) ∨ (x.op = y.op ∧ x.a = y.a ∧ x.b = y.b ∧ x.c ≠ y.c) ∨ (x.op = y.op ∧ x.a = y.a ∧ x.b = y.b ∧ x.c = y.c ∧ x.imm ≠ y.imm) := by
  cases x; cases y
  simp only [Ins.mk.injEq] at h ⊢
  omega

theorem lines_of (V : Env) (l : List Ins) (S : ByteArray) (hS : (⟨(textL V.fp l).toArray⟩ : ByteArray) = S) (hok : (mayL l 8).1 = 0) (hf : ∀ x ∈ l, InR x.imm) (W : World) :
    Calls Tryz.prog 18 #[.string S] W fun e w' => ∃ a cap, e = .returned (.slice a l.length cap) ∧ StrAt w' a (l.map (lineL V.fp)) ∧ Below W.heap.size W w' := by
  obtain ⟨h1, h2⟩ := may_iff.1 hok
  have h3 := text_le V.F (l := l) (fun x hx => insR_of (h2 x hx) (hf x hx))
  have hsz : S.size = (textL V.fp l).length := by rw [← hS, ba_sz]
  have hl : S.data.toList = textL V.fp l := by rw [← hS]
  refine (lines_any S (by rw [hsz]; omega) W).mono ?_
  rintro e w' ⟨a, cap, n, rfl, hst, hn, hb⟩
  rw [hl, hsz, lines_text V.F] at hst hn
  rw [List.length_map] at hn
  exact ⟨a, cap, by rw [hn], hst, hb⟩

theorem StrAt.kept {w w' : World} {a : Option Addr} {L : List (List UInt8)} (h : StrAt w a L) (hb : Below w.heap.size w w') : StrAt w' a L := fun i s hs => by
  obtain ⟨g, o, e, hc⟩ := h i s hs
  exact ⟨g, o, e, (hb.cell (World.block_lt_of_cell? w _ hc)).trans hc⟩

set_option maxRecDepth 100000 in
set_option maxHeartbeats 4000000 in
theorem asmLines_good (V : Env) (b off cap n : Nat) (m : List Ins) (hN : m.length ≤ cap) (h0 : 0 < m.length) (eM : min (n : Int) 300 = (m.length : Int)) (hfm : ∀ x ∈ m, InR x.imm) (x : Ins) (hx : InR x.imm) (z : Int) (w : World) (hP : Prg w (some ⟨b, off, none⟩) m) (A : V.A w)
    (hok : (mayL m 8).1 = 0) :
    Calls Tryz.prog 7 #[.slice (some ⟨b, off, none⟩) n cap, insV x, .int .i64 z] w fun e w' => e = .returned (.bool true) ∧ Below w.heap.size w w' := by
  obtain ⟨i0, hi0, hz0, hz1, hz2⟩ := info_parts infoIns
  have B0 := Below.refl w.heap.size w
  have B1 : ∀ ob, Below w.heap.size w (w.alloc ob) := fun ob => B0.alloc (Nat.le_refl _) ob
  have hX := box_ins w x
  obtain ⟨w0, hw0⟩ : ∃ w0, Hid (w.alloc (.cells #[.int .i64 x.op, .int .i64 x.a, .int .i64 x.b, .int .i64 x.c, .int .i64 x.imm] 37) = w0) := ⟨_, rfl⟩
  have BW := B1 (.cells #[.int .i64 x.op, .int .i64 x.a, .int .i64 x.b, .int .i64 x.c, .int .i64 x.imm] 37)
  rw [hw0.out] at hX BW
  have HX := Lib.hid hX
  have HP := Lib.hid (hP.kept BW)
  have HA := Lib.hid (V.kept A BW)
  have hAw := awake_any V w0 HA.out
  have hPr := fun (W : World) (h : Below w0.heap.size w0 W) => print_prog V (some ⟨b, off, none⟩) m.length m hfm W (HP.out.kept h) (V.kept HA.out h)
  have eP : printA V.fp m = (textL V.fp m, 0, 0) := by unfold printA; rw [if_pos hok]
  simp only [eP] at hPr
  obtain ⟨S, hS⟩ : ∃ S : ByteArray, Hid (⟨(textL V.fp m).toArray⟩ = S) := ⟨_, rfl⟩
  rw [hS.out] at hPr
  obtain ⟨k, hk, hkz⟩ := rem_at z h0
  have HM : Hid (m.length ≤ 256) := Lib.hid (may_iff.1 hok).1
  have HL : Hid ((pCells m).length = m.length * 5) := hd (pCells_len m)
  obtain ⟨N, hNm⟩ : ∃ N, Hid (m.length = N) := ⟨_, rfl⟩
  rw [hNm.out] at hN h0 eM hPr hk hkz HM HL
  have h256 := HM.out
  have dN : ((N : Int) == 0) = false := by simp; omega
  clear hP A hX eP B0 B1 HM
  unfold insV at *
  go_enter Tryz.func7, Tryz.ntmps7
  go_wp2_with fail
  rw [hw0.out]
  refine hAw.mono ?_
  rintro e w1 ⟨rfl, C1⟩
  clear hAw hw0
  go_wp2_with fail
  refine (hPr _ C1).mono ?_
  rintro e w2 ⟨rfl, b2⟩
  have C2 := C1.trans (b2.mono C1.size)
  clear hPr b2 C1
  have hX2 := HX.out.kept C2
  obtain ⟨x0, x1, x2, x3, x4⟩ := hX2
  have P2 := Lib.hid (prg_cells (HP.out.kept (C2.trans ((Below.refl _ w2).alloc (Nat.le_refl _) (.cells #[] 37) |>.mono C2.size))))
  have hfs : ∀ y ∈ m.set k x, InR y.imm := fun y hy => by
    rcases List.mem_or_eq_of_mem_set hy with h | h
    · exact hfm y h
    · rw [h]; exact hx
  have hPr2 := fun (g cp : Nat) (W : World) (h : Prg W (some ⟨g, 0, none⟩) (m.set k x)) (A : V.A W) => print_prog V (some ⟨g, 0, none⟩) cp (m.set k x) hfs W h A
  have eL : (m.set k x).length = N := by rw [List.length_set, hNm.out]
  rw [eL] at hPr2
  have HF := Lib.hid hfm
  clear hfm hfs
  rcases hkz with ⟨q1, q2⟩ | ⟨q1, q2⟩
  all_goals
    go_wp2_with (first
      | (at_builtin; refine wpList_append_own _ rfl _ _ 23 rfl w2.heap.size 37 i0 (.agg #[.int .i64 0, .int .i64 0, .int .i64 0, .int .i64 0, .int .i64 0]) 5 40 Tryz.underlying23 hi0 hz0 hz1 hz2 rfl (by decide) (.slice (some ⟨w2.heap.size, 0, none⟩) 0 0) 0 (pCells []) rfl (own_noneP w2) ⟨b, off, none⟩ N N (pCells m) rfl HL.out (P2.out _ rfl) (pCells_one m) (by unfold maxLen; omega) (by omega) (by simp) ?_; intro v1 w4 hown1 hgrow1 hx1
         rw [Nat.zero_add] at hown1
         obtain ⟨g, cp, rfl, hg⟩ := own_some5 hown1 h0
         have C4 : Below w0.heap.size w0 w4 := (C2.alloc C2.size _).grown hgrow1 (by have := C2.size; simp; omega) (fun j hj => by cases hj; exact C2.size)
         have hX4 := HX.out.kept C4
         obtain ⟨x0, x1, x2, x3, x4⟩ := hX4
         have OR : w4.ownsRow w2.heap.size 37 5 (.slice (some ⟨g, 0, none⟩) N cp) N (pCells m) := hown1
         have key : ∀ r, r < 5 → ∃ u, w4.cell? ⟨g, k * 5 + r, none⟩ = some u := fun r hr => ⟨(pCells m)[k * 5 + r]'(by rw [HL.out]; omega), by rw [OR.cellAt _ (by omega), List.getElem?_eq_getElem]⟩
         obtain ⟨u0, c0⟩ := key 0 (by omega)
         obtain ⟨u1, c1⟩ := key 1 (by omega)
         obtain ⟨u2, c2⟩ := key 2 (by omega)
         obtain ⟨u3, c3⟩ := key 3 (by omega)
         obtain ⟨u4, c4⟩ := key 4 (by omega)
         have f0 := OR.frozenAt (k * 5)
         have f1 := OR.frozenAt (k * 5 + 1)
         have f2 := OR.frozenAt (k * 5 + 2)
         have f3 := OR.frozenAt (k * 5 + 3)
         have f4 := OR.frozenAt (k * 5 + 4)
         rw [Nat.add_zero] at c0
         have S5 := Lib.hid (stored5 OR (k * 5) x)
         clear hown1 hgrow1 hx1 key OR))
    have O5 : (put5 w4 g (k * 5) x).ownsRow w2.heap.size 37 5 (.slice (some ⟨g, 0, none⟩) N cp) N (pCells (m.set k x)) := by
      rw [← set5_cells m k x (by rw [hNm.out]; exact hk)]
      exact S5.out.1
    have C5 : Below w0.heap.size w0 (put5 w4 g (k * 5) x) := C4.grown S5.out.2 C4.size (fun j hj => by cases hj; have := C2.size; omega)
    have P5 := (prg_of_owns O5).1
    clear x0 x1 x2 x3 x4 c0 c1 c2 c3 c4 f0 f1 f2 f3 f4 O5 S5 q1 q2
    refine (hPr2 g cp _ P5 (V.kept HA.out C5)).mono ?_
    rintro e w6 ⟨rfl, b6⟩
    have C6 : Below w0.heap.size w0 w6 := C5.trans (b6.mono C5.size)
    clear hPr2 b6 P5 C5 C4
    have hX6 := HX.out.kept C6
    obtain ⟨x0, x1, x2, x3, x4⟩ := hX6
    have hms := may_set x hok (k := k) (by rw [hNm.out]; exact hk)
    rw [hNm.out] at hms
    by_cases hwx : (wrong x N 8).1 = 0
    · have eP2 : printA V.fp (m.set k x) = (textL V.fp (m.set k x), 0, 0) := by unfold printA; rw [hms, if_pos hwx, if_pos rfl]
      have hL1 := fun W => lines_of V m S hS.out hok HF.out W
      obtain ⟨S2, hS2⟩ : ∃ S : ByteArray, Hid (⟨(textL V.fp (m.set k x)).toArray⟩ = S) := ⟨_, rfl⟩
      have hL2 := fun W => lines_of V (m.set k x) S2 hS2.out (by rw [hms, if_pos hwx]) (fun y hy => by
        rcases List.mem_or_eq_of_mem_set hy with h | h
        · exact HF.out y h
        · rw [h]; exact hx) W
      rw [eL] at hL2
      rw [hNm.out] at hL1
      simp only [eP2]
      rw [hS2.out]
      have HLS := Lib.hid (fun (i : Nat) (hi : i < N) => line_same V.F (k := k) (i := i) hok (by rw [hNm.out]; exact hwx) hx HF.out (by rw [hNm.out]; exact hi))
      have H1 : Hid (∀ i, i < N → (m.map (lineL V.fp))[i]? = some (lineL V.fp (m.getD i default))) := Lib.hid (fun i hi => by
        rw [List.getElem?_map, List.getD_eq_getElem?_getD, List.getElem?_eq_getElem (by rw [hNm.out]; exact hi)]; rfl)
      have H2 : Hid (∀ i, i < N → ((m.set k x).map (lineL V.fp))[i]? = some (lineL V.fp ((m.set k x).getD i default))) := Lib.hid (fun i hi => by
        rw [List.getElem?_map, List.getD_eq_getElem?_getD, List.getElem?_eq_getElem (by rw [eL]; exact hi)]; rfl)
      clear hms eP2 hwx hS hS2 hok eL hx
      go_wp2_with fail
      refine (hL1 _).mono ?_
      rintro e w7 ⟨a7, k7, rfl, T7, b7⟩
      have C7 : Below w0.heap.size w0 w7 := C6.trans (b7.mono C6.size)
      clear hL1 b7
      go_wp2_with fail
      refine (hL2 _).mono ?_
      rintro e w8 ⟨a8, k8, rfl, T8, b8⟩
      have T7 := Lib.hid (T7.kept b8)
      have T8 := Lib.hid T8
      have C8 : Below w0.heap.size w0 w8 := C7.trans (b8.mono C7.size)
      have X8 := Lib.hid (HX.out.kept C8)
      have M8 := Lib.hid (HP.out.kept C8)
      have dNN : ((N : Int) != (N : Int)) = false := by simp
      clear hL2 b8 C7 C6 HX HP x0 x1 x2 x3 x4
      go_wp2_with fail
      go_loopw [17, 101] (fun _ v101 wr => ∃ i : Nat, v101 = .int .i64 i ∧ i ≤ N ∧ ∃ n, wr = w8.drewN n) (fun _ v101 _ => N - (intOf v101).toNat)
      case atStart => exact ⟨0, rfl, Nat.zero_le _, 0, rfl⟩
      case round =>
        obtain ⟨i, rfl, hi, n', rfl⟩ := hrel
        by_cases hlt : i < N
        · have hlt' : (i : Int) < (N : Int) := by omega
          obtain ⟨g7, o7, rfl, l7⟩ := T7.out i _ (H1.out i hlt)
          obtain ⟨g8, o8, rfl, l8⟩ := T8.out i _ (H2.out i hlt)
          have hls := HLS.out i hlt
          obtain ⟨bb, ob, hbb, hy⟩ := M8.out k (by rw [hNm.out]; exact hk)
          cases hbb
          obtain ⟨W, hW⟩ : ∃ W, Hid (W = w8.drewN n') := ⟨_, rfl⟩
          have l7 : W.cell? ⟨g7, o7 + i, none⟩ = some (.string ⟨(lineL V.fp (m.getD i default)).toArray⟩) := by rw [hW.out]; exact l7
          have l8 : W.cell? ⟨g8, o8 + i, none⟩ = some (.string ⟨(lineL V.fp ((m.set k x).getD i default)).toArray⟩) := by rw [hW.out]; exact l8
          have hy : InsAt W b (off + k * 5) (m.getD k default) := by rw [hW.out]; exact ⟨hy.c0, hy.c1, hy.c2, hy.c3, hy.c4⟩
          have hxx : InsAt W w.heap.size 0 x := by rw [hW.out]; exact ⟨X8.out.c0, X8.out.c1, X8.out.c2, X8.out.c3, X8.out.c4⟩
          rw [← hW.out]
          obtain ⟨x0, x1, x2, x3, x4⟩ := hxx
          obtain ⟨y0, y1, y2, y3, y4⟩ := hy
          generalize lineL V.fp (m.getD i default) = A1 at *
          generalize lineL V.fp ((m.set k x).getD i default) = A2 at *
          generalize m.getD k default = y at *
          obtain ⟨D1, hD1⟩ : ∃ D : ByteArray, Hid (⟨A1.toArray⟩ = D) := ⟨_, rfl⟩
          obtain ⟨D2, hD2⟩ : ∃ D : ByteArray, Hid (⟨A2.toArray⟩ = D) := ⟨_, rfl⟩
          rw [hD1.out] at l7
          rw [hD2.out] at l8
          have hDD : (D1.toList == D2.toList) = decide (A1 = A2) := by
            rw [Lib.toList_data, Lib.toList_data, ← hD1.out, ← hD2.out]
            by_cases h : A1 = A2
            · rw [decide_eq_true h, h]; simp
            · rw [decide_eq_false h]; simpa using h
          clear HLS H1 H2 T7 T8 M8 X8 HF HA
          by_cases e1 : i = k
          · subst e1
            by_cases e2 : x = y
            · subst e2
              have eA : A1 = A2 := hls.2 (.inr rfl)
              rw [decide_eq_true eA] at hDD
              have dk : ((i : Int) != (i : Int)) = false := by simp
              go_wp2_with fail
              go_quiet (fail)
              go_wp2_with fail
              go_roundw
              case rel => exact ⟨i + 1, by go_num, by omega, n' + nq, by rw [hW.out, drewN_add]⟩
              case measure => simp [intOf]; omega
            · have eA : ¬ A1 = A2 := fun h => (hls.1 h).elim (fun h => h rfl) e2
              rw [decide_eq_false eA] at hDD
              have dk : ((i : Int) != (i : Int)) = false := by simp
              rcases ins_ne e2 with q | ⟨r0, q⟩ | ⟨r0, r1, q⟩ | ⟨r0, r1, r2, q⟩ | ⟨r0, r1, r2, r3, q⟩
              · have dq : (x.op == y.op) = false := by simpa using q
                clear q hls eA e2
                go_wp2_with fail
                go_quiet (fail)
                go_wp2_with fail
                go_roundw
                case rel => exact ⟨i + 1, by go_num, by omega, n' + nq, by rw [hW.out, drewN_add]⟩
                case measure => simp [intOf]; omega
              · have dq : (x.a == y.a) = false := by simpa using q
                rw [← r0] at y0
                clear q hls eA e2 r0
                go_wp2_with fail
                go_quiet (fail)
                go_wp2_with fail
                go_roundw
                case rel => exact ⟨i + 1, by go_num, by omega, n' + nq, by rw [hW.out, drewN_add]⟩
                case measure => simp [intOf]; omega
              · have dq : (x.b == y.b) = false := by simpa using q
                rw [← r0] at y0
                rw [← r1] at y1
                clear q hls eA e2 r0 r1
                go_wp2_with fail
                go_quiet (fail)
                go_wp2_with fail
                go_roundw
                case rel => exact ⟨i + 1, by go_num, by omega, n' + nq, by rw [hW.out, drewN_add]⟩
                case measure => simp [intOf]; omega
              · have dq : (x.c == y.c) = false := by simpa using q
                rw [← r0] at y0
                rw [← r1] at y1
                rw [← r2] at y2
                clear q hls eA e2 r0 r1 r2
                go_wp2_with fail
                go_quiet (fail)
                go_wp2_with fail
                go_roundw
                case rel => exact ⟨i + 1, by go_num, by omega, n' + nq, by rw [hW.out, drewN_add]⟩
                case measure => simp [intOf]; omega
              · have dq : (x.imm == y.imm) = false := by simpa using q
                rw [← r0] at y0
                rw [← r1] at y1
                rw [← r2] at y2
                rw [← r3] at y3
                clear q hls eA e2 r0 r1 r2 r3
                go_wp2_with fail
                go_quiet (fail)
                go_wp2_with fail
                go_roundw
                case rel => exact ⟨i + 1, by go_num, by omega, n' + nq, by rw [hW.out, drewN_add]⟩
                case measure => simp [intOf]; omega
          · have eA : A1 = A2 := hls.2 (.inl e1)
            rw [decide_eq_true eA] at hDD
            have dk : ((i : Int) != (k : Int)) = true := by simpa using (by omega : ¬ (i : Int) = (k : Int))
            go_wp2_with fail
            go_quiet (fail)
            go_wp2_with fail
            go_roundw
            case rel => exact ⟨i + 1, by go_num, by omega, n' + nq, by rw [hW.out, drewN_add]⟩
            case measure => simp [intOf]; omega
        · have hltd : decide ((i : Int) < (N : Int)) = false := by simp; omega
          go_wp2
          go_ret
          exact ⟨rfl, BW.trans ((below_drewN C8 n').mono BW.size)⟩
    · have eP2 : printA V.fp (m.set k x) = ([], (wrong x N 8).1, (k : Int)) := by unfold printA; rw [hms, if_neg hwx, if_neg hwx]
      have hCk := fun (W : World) (h : Below w0.heap.size w0 W) => check_any x N 8 W (V.fld (V.kept HA.out h))
      simp only [eP2]
      generalize (wrong x N 8).1 = E at *
      have dE : (E != 0) = true := by simpa using hwx
      have dE2 : (E == E) = true := by simp
      have dk : ((k : Int) == (k : Int)) = true := by simp
      clear hms eP2 HF HP HX HA hwx
      unfold insV at hCk
      go_wp2_with fail
      refine (hCk _ C6).mono ?_
      rintro e w7 ⟨rfl, b7⟩
      have C7 : Below w0.heap.size w0 w7 := C6.trans (b7.mono C6.size)
      go_wp2_with fail
      go_ret
      exact ⟨rfl, BW.trans (C7.mono BW.size)⟩
end Go.Proofs.YtalaajniammggaaGreatDoor
