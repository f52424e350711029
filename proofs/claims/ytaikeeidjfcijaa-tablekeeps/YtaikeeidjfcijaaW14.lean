/- TableTells. -/
import Derived.Test.YtaikeeidjfcijaaW13
namespace Go.Proofs.Ytaikeeidjfcijaa
open Go.RowKit Go.Maps

theorem canon_lt {l c : List Nat} {B : Nat} (h : IsCanon l c) (hl : ∀ i, l.getD i 0 < B) : ∀ i, c.getD i 0 < B := by
  intro i
  rw [List.getD_eq_getElem?_getD]
  cases hi : c[i]? with
  | none =>
    have h0 := hl l.length
    simp [List.getD_eq_getElem?_getD] at h0
    simpa using h0
  | some x =>
    obtain ⟨j, _, e⟩ := mem_getD ((h.2 x).1 (List.mem_of_getElem? hi))
    have := hl j
    rw [e] at this
    simpa using this

theorem cells_none_i {w : World} {l : List Int} (h : Cells w none (iCells l)) : l.length = 0 := by
  cases l with
  | nil => rfl
  | cons x r => obtain ⟨b, off, h, _⟩ := h (i_ne _ 0 (by simp)); cases h

theorem list_Z (z : List Int) : ∃ Z : List Int, iCells [-2, -1, 0, 1, 2, 3, 4, 5, 6, 7, 8, 9] ++ iCells z = iCells Z ∧ Z.length = 12 + z.length :=
  ⟨[-2, -1, 0, 1, 2, 3, 4, 5, 6, 7, 8, 9] ++ z, by simp [iCells], by simp; omega⟩

/-- The world in which the tables' calls are made: the table, its labels, what is asked. -/
theorem cells_wide {w : World} {B g cp : Nat} {d m : List Nat} (h : w.ownsRow B 35 1 (.slice (some ⟨g, 0, none⟩) (d.length + 3) cp) (d.length + 3) (labCells (d ++ m))) : Cells w (some ⟨g, 0, none⟩) (labCells d) := by
  obtain ⟨a, c, e, hC, _⟩ := cells_of_owns h
  cases e
  have := cells_take_lab hC d.length
  simpa using this

set_option maxRecDepth 100000 in
set_option maxHeartbeats 8000000 in
theorem tableTells_walk (a a2 a3 : Option Addr) (cap cap2 cap3 : Nat) (l q : List Nat) (z : List Int) (w : World) (hC : Cells w a (labCells l)) (hcp : l.length ≤ cap) (hlw : ∀ i, l.getD i 0 < 18446744073709551616)
    (hC2 : Cells w a2 (labCells q)) (hcp2 : q.length ≤ cap2) (hqw : ∀ i, q.getD i 0 < 18446744073709551616)
    (hC3 : Cells w a3 (iCells z)) (hcp3 : z.length ≤ cap3) (hA3 : a3 = none → cap3 = 0) :
    Calls Try.prog 5 #[.slice a l.length cap, .slice a2 q.length cap2, .slice a3 z.length cap3] w fun e w' => e = .returned (.bool true) ∧ Below w.heap.size w w' := by
  obtain ⟨l', hl', hll⟩ := take_lab l 300
  obtain ⟨q', hq', hql⟩ := take_lab q 100
  obtain ⟨z', hz', hzl⟩ : ∃ t : List Int, t = z.take 100 ∧ t.length = min 100 z.length := ⟨_, rfl, by simp⟩
  have hC' : Cells w a (labCells l') := by rw [hl']; exact cells_take_lab hC 300
  have hC2' : Cells w a2 (labCells q') := by rw [hq']; exact cells_take_lab hC2 100
  have hC3' : Cells w a3 (iCells z') := by rw [hz']; exact cells_take_i hC3 100
  have hlw' : ∀ i, l'.getD i 0 < 18446744073709551616 := by rw [hl']; exact getD_take_lt hlw 300
  have hqw' : ∀ i, q'.getD i 0 < 18446744073709551616 := by rw [hq']; exact getD_take_lt hqw 100
  have e1 := cut300 l.length
  have e2 := cut100 q.length
  have e3 := cut100 z.length
  rw [← hll] at e1
  rw [← hql] at e2
  rw [← hzl] at e3
  have b1 : l'.length ≤ l.length ∧ l'.length ≤ 300 := by omega
  have b2 : q'.length ≤ q.length ∧ q'.length ≤ 100 := by omega
  have b3 : z'.length ≤ z.length ∧ z'.length ≤ 100 := by omega
  obtain ⟨b11, b12⟩ := b1
  obtain ⟨b21, b22⟩ := b2
  obtain ⟨b31, b32⟩ := b3
  clear hl' hll hq' hql hz' hzl hC hC2 hC3 hlw hqw
  generalize l.length = nl at *
  generalize q.length = nq at *
  generalize z.length = nz at *
  obtain ⟨i0, hi, hz0, hz1, hz2⟩ := info_parts info3
  have hn3 : a3 = none → z'.length = 0 ∧ cap3 = 0 := fun e => ⟨cells_none_i (e ▸ hC3'), hA3 e⟩
  go_enter Try.func5, Try.ntmps5
  go_wp2_with (go_at_call 8; refine (awake_any _).mono ?_; rintro e w1 ⟨rfl, B1⟩)
  refine (rcanon_any a cap l' w1 (hC'.kept B1) (by omega)).mono ?_
  rintro e w2 ⟨v, c, hcan, rfl, ho2, hb2⟩
  have B2 := below_step B1 hb2
  obtain ⟨ac, cc, rfl, hCc, hcc, _⟩ := cells_of_owns ho2
  have hnc := none_cap ho2
  obtain ⟨d, hd, hdl⟩ := take_lab c 8
  have hCd : Cells w2 ac (labCells d) := by rw [hd]; exact cells_take_lab hCc 8
  have hdp : Hid (d.Pairwise (· < ·)) := by show d.Pairwise _; rw [hd]; exact hcan.1.sublist (List.take_sublist _ _)
  have hdw : ∀ i, d.getD i 0 < 18446744073709551616 := by rw [hd]; exact getD_take_lt (canon_lt hcan hlw') 8
  have e4 := cut8 c.length
  rw [← hdl] at e4
  have b41 : d.length ≤ c.length := by omega
  have b42 : d.length ≤ 8 := by omega
  clear hd hdl hcan ho2 hb2 hCc hlw' hC'
  generalize c.length = nc at *
  go_wp2_with fail
  refine (wide_any ac cc d w2 hCd hnc (by omega)).mono ?_
  rintro e w3 ⟨g, cp, rfl, ho3, hb3⟩
  have B3 := below_step B2 hb3
  have hCd3 := hCd.kept hb3
  have hCg := cells_wide ho3
  clear ho3 hb3 hCd
  by_cases hd0 : d.length = 0
  · have hd1 : d = [] := List.eq_nil_of_length_eq_zero hd0
    subst hd1
    go_wp2_with fail
    refine (new_no _ _ [] w3 hCg (by decide)).mono ?_
    rintro e w4 ⟨rfl, hdr⟩
    have B4 := below_step B3 (below_draw hdr)
    have hm : mayL [] = (1, 0) := rfl
    simp only [hm]
    go_wp2
    go_ret
    exact ⟨rfl, B4⟩
  · go_wp2_with fail
    refine (new_yes _ _ d w3 hCg (mayL_rising hdp.out (by omega) b42) hdw).mono ?_
    rintro e w4 ⟨tb, lb, tc, mb, rfl, T4, hb4⟩
    have B4 := below_step B3 hb4
    have hCd4 := hCd3.kept hb4
    have t0 : ((d.length : Int) == 0) = false := by rw [beq_eq_false_iff_ne]; omega
    clear hb4 hCg hCd3 hd0
    go_wp2_with fail
    refine (len_any T4).mono ?_
    rintro e w4 ⟨rfl, rfl⟩
    go_wp2_with (first | (at_builtin; (refine wpList_append_any _ rfl (.tmp 71) (.tmp 76) 33 rfl w4.heap.size 3 i0 (.int .i64 0) 1 8 Try.underlying33 hi hz0 hz1 hz2 rfl (by decide) _ 12 (iCells [-2, -1, 0, 1, 2, 3, 4, 5, 6, 7, 8, 9]) rfl (World.ownsRow_lit w4 _ 12 (Nat.le_refl _) (by decide) rfl) a3 z'.length cap3 (iCells z') rfl (by rw [iCells_len]; omega) hn3 (cells_any hC3' (B4.alloc B4.size _)) (i_one z') (by unfold maxLen; omega) (by omega) (by simp) ?_); intro va w5 ho5 hg5; obtain ⟨Z, hZ, hZl⟩ := list_Z z'; rw [hZ, ← hZl] at ho5; obtain ⟨aa, ca, rfl, hCa, _, _⟩ := cells_of_owns ho5) | fail)
    have hb5 : Below w4.heap.size w4 w5 := ((Below.refl _ w4).alloc (Nat.le_refl _) _).grown hg5 (by simp) (fun k hk => by cases hk; exact Nat.le_refl _)
    have B5 := below_step B4 hb5
    have T5 := T4.kept hb5
    have hCd5 := hCd4.kept hb5
    have hCq5 := hC2'.kept B5
    have hZb : Z.length ≤ 112 := by omega
    have HZ : Hid (Z.length = 12 + z'.length) := hZl
    clear ho5 hg5 hZ hZl hb5 T4 hCd4 hC2' hC3' hn3 hA3 B1 B2 B3 B4
    obtain ⟨bd, offd, rfl, hcd⟩ := hCd5 (lab_ne d 0 T5.pos)
    go_wp2
    go_loopw [80] (fun i wr => ∃ k : Nat, k ≤ Z.length ∧ i = .int .i64 k ∧ Below w5.heap.size w5 wr) (fun i _ => Z.length - (intOf i).toNat)
    case atStart => exact ⟨0, Nat.zero_le _, rfl, Below.refl _ _⟩
    case round =>
      obtain ⟨k, hk, rfl, hbr⟩ := hrel
      by_cases hlt : k < Z.length
      · obtain ⟨bz, offz, rfl, hcz⟩ := (hCa.kept hbr) (i_ne Z k hlt)
        have hx : wr.cell? ⟨bz, offz + k, none⟩ = some (.int .i64 (Z.getD k 0)) := hcz k _ (i_at Z k hlt)
        have hlt' : (k : Int) < 12 + (z'.length : Int) := by have := HZ.out; omega
        have Tr := T5.kept hbr
        clear hcz
        obtain ⟨i, hi'⟩ : ∃ i : Int, Hid (i = Z.getD k 0) := ⟨_, rfl⟩
        rw [← hi'.out] at hx
        by_cases h0 : 0 ≤ i
        · by_cases h1 : i < d.length
          · obtain ⟨m0, hm0⟩ : ∃ m : Nat, Hid (i = (m : Int)) := ⟨i.toNat, by show i = _; omega⟩
            have hm : m0 < d.length := by have := hm0.out; omega
            have hy0 := hcd m0 _ (lab_at d m0 hm)
            have hy : wr.cell? ⟨bd, offd + i.toNat, none⟩ = some (.int .u64 (d.getD m0 0 : Nat)) := by
              rw [show i.toNat = m0 by have := hm0.out; omega]
              exact (hbr.cell (World.block_lt_of_cell? w5 _ hy0)).trans hy0
            clear hy0
            have hL : Calls Try.prog 18 #[.pointer (some ⟨tb, 0, none⟩), .int .i64 i] wr fun e w' => e = .returned (.tuple #[.int .u64 (d.getD m0 0 : Nat), .int .i64 0]) ∧ w' = wr := by
              rw [hm0.out]; exact label_yes Tr m0 hm
            generalize d.getD m0 0 = x at *
            go_wp2_with fail
            refine hL.mono ?_
            rintro e wr ⟨rfl, rfl⟩
            clear hL
            go_wp2_with fail
            refine (up_any Tr i).mono ?_
            rintro e w6 ⟨v, rfl, ho6, hb6⟩
            obtain ⟨a6, c6, rfl, hC6, _, _⟩ := cells_of_owns ho6
            have R6 := below_step hbr hb6
            clear ho6
            go_wp2_with fail
            refine (rup_any _ _ d w6 (hCd5.kept R6) hdw (by omega) i).mono ?_
            rintro e w7 ⟨v, rfl, ho7, hb7⟩
            obtain ⟨a7, c7, rfl, hC7, _, _⟩ := cells_of_owns ho7
            have R7 := below_step R6 hb7
            clear ho7
            go_wp2_with fail
            refine (sameInts_at _ _ _ _ _ _ (upTo d i d.length) w7 rfl rfl (hC6.kept hb7) hC7 (by have := upTo_len d i d.length; omega)).mono ?_
            rintro e w8 ⟨rfl, hb8⟩
            have R8 := below_step R7 hb8
            clear hb6 hb7 hb8 hC6 hC7 R6 R7
            go_wp2
            go_loopw [17] (fun j wr' => ∃ m : Nat, m ≤ 10 ∧ j = .int .i64 ((m : Int) - 1) ∧ Below w5.heap.size w5 wr') (fun j _ => (9 - intOf j).toNat)
            case atStart => exact ⟨0, by omega, rfl, R8⟩
            case round =>
              obtain ⟨m, hm10, rfl, hbj⟩ := hrel
              by_cases hm9 : m < 10
              · have Tj := T5.kept hbj
                have tj : ((m : Int) - 1) < 9 := by omega
                obtain ⟨j, hj⟩ : ∃ j : Int, Hid (j = (m : Int) - 1) := ⟨_, rfl⟩
                rw [← hj.out] at tj ⊢
                have tj0 : -1 ≤ j := by have := hj.out; omega
                go_wp2_with fail
                refine (tflows_any Tj i j).mono ?_
                rintro e wa ⟨rfl, hda⟩
                have Ra := below_step hbj (below_draw hda)
                clear hda
                go_wp2_with fail
                refine (rtflows_any _ _ d wa (hCd5.kept Ra) hdw i j).mono ?_
                rintro e wb ⟨rfl, hdb⟩
                have Rb := below_step Ra (below_draw hdb)
                clear hdb Ra
                go_wp2_with fail
                refine (tflows_any (T5.kept Rb) j i).mono ?_
                rintro e wc ⟨rfl, hdc⟩
                have Rc := below_step Rb (below_draw hdc)
                clear hdc Rb
                go_wp2_with fail
                refine (rtflows_any _ _ d wc (hCd5.kept Rc) hdw j i).mono ?_
                rintro e wd ⟨rfl, hdd⟩
                have Rd := below_step Rc (below_draw hdd)
                clear hdd Rc
                generalize tflows d i j = r1 at *
                generalize tflows d j i = r2 at *
                have tr1 : (r1 != r1) = false := by simp
                have tr2 : (r2 != r2) = false := by simp
                go_wp2
                go_roundw
                case rel => exact ⟨m + 1, by omega, by congr 1; have := hj.out; omega, Rd⟩
                case measure => simp [intOf]; omega
              · have tj : decide (((m : Int) - 1) < 9) = false := by simp; omega
                have tj' : 9 ≤ ((m : Int) - 1) := by omega
                go_wp2
                go_roundw
                case rel => exact ⟨k + 1, by omega, by go_num, hbj⟩
                case measure => simp [intOf]; omega
          · have hL := label_no Tr i (inT_big h1)
            have t1 : decide (i < (d.length : Int)) = false := decide_eq_false h1
            have t1' : (d.length : Int) ≤ i := by omega
            go_wp2_with fail
            refine hL.mono ?_
            rintro e wr ⟨rfl, rfl⟩
            clear hL
            go_wp2_with fail
            refine (up_any Tr i).mono ?_
            rintro e w6 ⟨v, rfl, ho6, hb6⟩
            obtain ⟨a6, c6, rfl, hC6, _, _⟩ := cells_of_owns ho6
            have R6 := below_step hbr hb6
            clear ho6
            go_wp2_with fail
            refine (rup_any _ _ d w6 (hCd5.kept R6) hdw (by omega) i).mono ?_
            rintro e w7 ⟨v, rfl, ho7, hb7⟩
            obtain ⟨a7, c7, rfl, hC7, _, _⟩ := cells_of_owns ho7
            have R7 := below_step R6 hb7
            clear ho7
            go_wp2_with fail
            refine (sameInts_at _ _ _ _ _ _ (upTo d i d.length) w7 rfl rfl (hC6.kept hb7) hC7 (by have := upTo_len d i d.length; omega)).mono ?_
            rintro e w8 ⟨rfl, hb8⟩
            have R8 := below_step R7 hb8
            clear hb6 hb7 hb8 hC6 hC7 R6 R7
            go_wp2
            go_loopw [17] (fun j wr' => ∃ m : Nat, m ≤ 10 ∧ j = .int .i64 ((m : Int) - 1) ∧ Below w5.heap.size w5 wr') (fun j _ => (9 - intOf j).toNat)
            case atStart => exact ⟨0, by omega, rfl, R8⟩
            case round =>
              obtain ⟨m, hm10, rfl, hbj⟩ := hrel
              by_cases hm9 : m < 10
              · have Tj := T5.kept hbj
                have tj : ((m : Int) - 1) < 9 := by omega
                obtain ⟨j, hj⟩ : ∃ j : Int, Hid (j = (m : Int) - 1) := ⟨_, rfl⟩
                rw [← hj.out] at tj ⊢
                have tj0 : -1 ≤ j := by have := hj.out; omega
                go_wp2_with fail
                refine (tflows_any Tj i j).mono ?_
                rintro e wa ⟨rfl, hda⟩
                have Ra := below_step hbj (below_draw hda)
                clear hda
                go_wp2_with fail
                refine (rtflows_any _ _ d wa (hCd5.kept Ra) hdw i j).mono ?_
                rintro e wb ⟨rfl, hdb⟩
                have Rb := below_step Ra (below_draw hdb)
                clear hdb Ra
                go_wp2_with fail
                refine (tflows_any (T5.kept Rb) j i).mono ?_
                rintro e wc ⟨rfl, hdc⟩
                have Rc := below_step Rb (below_draw hdc)
                clear hdc Rb
                go_wp2_with fail
                refine (rtflows_any _ _ d wc (hCd5.kept Rc) hdw j i).mono ?_
                rintro e wd ⟨rfl, hdd⟩
                have Rd := below_step Rc (below_draw hdd)
                clear hdd Rc
                generalize tflows d i j = r1 at *
                generalize tflows d j i = r2 at *
                have tr1 : (r1 != r1) = false := by simp
                have tr2 : (r2 != r2) = false := by simp
                go_wp2
                go_roundw
                case rel => exact ⟨m + 1, by omega, by congr 1; have := hj.out; omega, Rd⟩
                case measure => simp [intOf]; omega
              · have tj : decide (((m : Int) - 1) < 9) = false := by simp; omega
                have tj' : 9 ≤ ((m : Int) - 1) := by omega
                go_wp2
                go_roundw
                case rel => exact ⟨k + 1, by omega, by go_num, hbj⟩
                case measure => simp [intOf]; omega
        · have hL := label_no Tr i (inT_neg h0)
          have t1 : decide (0 ≤ i) = false := decide_eq_false h0
          have t1' : i < 0 := by omega
          go_wp2_with fail
          refine hL.mono ?_
          rintro e wr ⟨rfl, rfl⟩
          clear hL
          go_wp2_with fail
          refine (up_any Tr i).mono ?_
          rintro e w6 ⟨v, rfl, ho6, hb6⟩
          obtain ⟨a6, c6, rfl, hC6, _, _⟩ := cells_of_owns ho6
          have R6 := below_step hbr hb6
          clear ho6
          go_wp2_with fail
          refine (rup_any _ _ d w6 (hCd5.kept R6) hdw (by omega) i).mono ?_
          rintro e w7 ⟨v, rfl, ho7, hb7⟩
          obtain ⟨a7, c7, rfl, hC7, _, _⟩ := cells_of_owns ho7
          have R7 := below_step R6 hb7
          clear ho7
          go_wp2_with fail
          refine (sameInts_at _ _ _ _ _ _ (upTo d i d.length) w7 rfl rfl (hC6.kept hb7) hC7 (by have := upTo_len d i d.length; omega)).mono ?_
          rintro e w8 ⟨rfl, hb8⟩
          have R8 := below_step R7 hb8
          clear hb6 hb7 hb8 hC6 hC7 R6 R7
          go_wp2
          go_loopw [17] (fun j wr' => ∃ m : Nat, m ≤ 10 ∧ j = .int .i64 ((m : Int) - 1) ∧ Below w5.heap.size w5 wr') (fun j _ => (9 - intOf j).toNat)
          case atStart => exact ⟨0, by omega, rfl, R8⟩
          case round =>
            obtain ⟨m, hm10, rfl, hbj⟩ := hrel
            by_cases hm9 : m < 10
            · have Tj := T5.kept hbj
              have tj : ((m : Int) - 1) < 9 := by omega
              obtain ⟨j, hj⟩ : ∃ j : Int, Hid (j = (m : Int) - 1) := ⟨_, rfl⟩
              rw [← hj.out] at tj ⊢
              have tj0 : -1 ≤ j := by have := hj.out; omega
              go_wp2_with fail
              refine (tflows_any Tj i j).mono ?_
              rintro e wa ⟨rfl, hda⟩
              have Ra := below_step hbj (below_draw hda)
              clear hda
              go_wp2_with fail
              refine (rtflows_any _ _ d wa (hCd5.kept Ra) hdw i j).mono ?_
              rintro e wb ⟨rfl, hdb⟩
              have Rb := below_step Ra (below_draw hdb)
              clear hdb Ra
              go_wp2_with fail
              refine (tflows_any (T5.kept Rb) j i).mono ?_
              rintro e wc ⟨rfl, hdc⟩
              have Rc := below_step Rb (below_draw hdc)
              clear hdc Rb
              go_wp2_with fail
              refine (rtflows_any _ _ d wc (hCd5.kept Rc) hdw j i).mono ?_
              rintro e wd ⟨rfl, hdd⟩
              have Rd := below_step Rc (below_draw hdd)
              clear hdd Rc
              generalize tflows d i j = r1 at *
              generalize tflows d j i = r2 at *
              have tr1 : (r1 != r1) = false := by simp
              have tr2 : (r2 != r2) = false := by simp
              go_wp2
              go_roundw
              case rel => exact ⟨m + 1, by omega, by congr 1; have := hj.out; omega, Rd⟩
              case measure => simp [intOf]; omega
            · have tj : decide (((m : Int) - 1) < 9) = false := by simp; omega
              have tj' : 9 ≤ ((m : Int) - 1) := by omega
              go_wp2
              go_roundw
              case rel => exact ⟨k + 1, by omega, by go_num, hbj⟩
              case measure => simp [intOf]; omega
      · have hlt' : decide ((k : Int) < 12 + (z'.length : Int)) = false := by have := HZ.out; simp; omega
        have hge : 12 + (z'.length : Int) ≤ (k : Int) := by have := HZ.out; omega
        have B6 := below_step B5 hbr
        clear hCa hlt hk
        go_wp2
        go_loopw [160] (fun i wr => ∃ k : Nat, k ≤ d.length ∧ i = .int .i64 k ∧ Below w5.heap.size w5 wr) (fun i _ => d.length - (intOf i).toNat)
        case atStart => exact ⟨0, Nat.zero_le _, rfl, hbr⟩
        case round =>
          clear hlt' hge B6 hbr
          obtain ⟨k2, hk2, rfl, hbr⟩ := hrel
          by_cases hlt : k2 < d.length
          · have hy0 := hcd k2 _ (lab_at d k2 hlt)
            have hy : wr.cell? ⟨bd, offd + k2, none⟩ = some (.int .u64 (d.getD k2 0 : Nat)) := (hbr.cell (World.block_lt_of_cell? w5 _ hy0)).trans hy0
            have hI := index_any (T5.kept hbr) (d.getD k2 0) (hdw k2)
            rw [lastIx_rising hdp.out d.length hlt (Nat.le_refl _)] at hI
            have hlt' : (k2 : Int) < (d.length : Int) := by omega
            have hneg : decide ((k2 : Int) < 0) = false := decide_eq_false (by omega)
            have hge : decide ((d.length : Int) ≤ (k2 : Int)) = false := by simp; omega
            clear hy0
            generalize d.getD k2 0 = x at *
            have tx : ((x : Int) != (x : Int)) = false := by simp
            simp only [Option.getD_some, Option.isSome_some] at hI
            go_wp2_with fail
            refine hI.mono ?_
            rintro e wr ⟨rfl, rfl⟩
            clear hI
            go_wp2
            go_roundw
            case rel => exact ⟨k2 + 1, by omega, by go_num, hbr⟩
            case measure => simp [intOf]; omega
          · have hlt' : decide ((k2 : Int) < (d.length : Int)) = false := by simp; omega
            have hge : (d.length : Int) ≤ (k2 : Int) := by omega
            go_wp2
            go_loopw [197] (fun i wr => ∃ k : Nat, k ≤ q'.length ∧ i = .int .i64 k ∧ Below w5.heap.size w5 wr) (fun i _ => q'.length - (intOf i).toNat)
            case atStart => exact ⟨0, Nat.zero_le _, rfl, hbr⟩
            case round =>
              clear hlt' hge hlt hk2 hbr
              obtain ⟨k3, hk3, rfl, hbr⟩ := hrel
              by_cases hlt : k3 < q'.length
              · obtain ⟨bq, offq, rfl, hcq⟩ := (hCq5.kept hbr) (lab_ne q' k3 hlt)
                have hy : wr.cell? ⟨bq, offq + k3, none⟩ = some (.int .u64 (q'.getD k3 0 : Nat)) := hcq k3 _ (lab_at q' k3 hlt)
                have hxw := hqw' k3
                have hlt' : (k3 : Int) < (q'.length : Int) := by omega
                clear hcq
                generalize q'.getD k3 0 = x at *
                have hI := index_any (T5.kept hbr) x hxw
                have hR := rindex_any _ cc d wr (hCd5.kept hbr) hdp.out x (by omega)
                generalize (lastIx d x d.length).getD 0 = ix at *
                generalize (lastIx d x d.length).isSome = ib at *
                have tx : ((ix : Int) != (ix : Int)) = false := by simp
                have tb' : (ib != ib) = false := by simp
                go_wp2_with fail
                refine hI.mono ?_
                rintro e wr ⟨rfl, rfl⟩
                clear hI
                go_wp2_with fail
                refine hR.mono ?_
                rintro e wr ⟨rfl, rfl⟩
                clear hR
                go_wp2_with fail
                refine (down_any (T5.kept hbr) x hxw).mono ?_
                rintro e w6 ⟨v, rfl, ho6, hb6⟩
                obtain ⟨a6, c6, rfl, hC6, _, _⟩ := cells_of_owns ho6
                have R6 := below_step hbr hb6
                clear ho6
                go_wp2_with fail
                refine (rdown_any _ _ d w6 (hCd5.kept R6) hdw (by omega) x hxw).mono ?_
                rintro e w7 ⟨v, rfl, ho7, hb7⟩
                obtain ⟨a7, c7, rfl, hC7, _, _⟩ := cells_of_owns ho7
                have R7 := below_step R6 hb7
                clear ho7
                go_wp2_with fail
                refine (sameInts_at _ _ _ _ _ _ (downTo d x d.length) w7 rfl rfl (hC6.kept hb7) hC7 (by have := downTo_len d x d.length; omega)).mono ?_
                rintro e w8 ⟨rfl, hb8⟩
                have R8 := below_step R7 hb8
                clear hb6 hb7 hb8 hC6 hC7 R6 R7
                go_wp2
                go_roundw
                case rel => exact ⟨k3 + 1, by omega, by go_num, R8⟩
                case measure => simp [intOf]; omega
              · have hlt' : decide ((k3 : Int) < (q'.length : Int)) = false := by simp; omega
                have hge : (q'.length : Int) ≤ (k3 : Int) := by omega
                go_wp2
                go_ret
                exact ⟨rfl, below_step B5 hbr⟩
end Go.Proofs.Ytaikeeidjfcijaa
