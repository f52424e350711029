/- TableKeeps returns true. -/
import Derived.Test.YtaikeeidjfcijaaK4
namespace Go.Proofs.Ytaikeeidjfcijaa
open Go.RowKit Go.Maps

theorem new_both (a : Option Addr) (cap : Nat) (l : List Nat) (w : World) (hC : Cells w a (labCells l)) (hw : ∀ i, l.getD i 0 < 18446744073709551616) :
    Calls Try.prog 12 #[.slice a l.length cap] w fun e w' => ∃ (tv : Value) (er pl : Nat), e = .returned (.tuple #[tv, .int .i64 er, .int .i64 pl]) ∧ Go.RowKit.Below w.heap.size w w' ∧ ((tv = .pointer none ∧ er ≠ 0) ∨ (er = 0 ∧ ∃ tb lb tc mb, tv = .pointer (some ⟨tb, 0, none⟩) ∧ Tab w' tb lb tc mb l ∧ w.heap.size ≤ tb ∧ w.heap.size ≤ lb ∧ w.heap.size ≤ mb)) := by
  by_cases hok : (mayL l).1 = 0
  · have hz := mayL_zero hok
    refine (new_at a cap l w hC hz hw).mono ?_
    rintro e w' ⟨tb, lb, cp, mb, rfl, hT, hb, h1, h2, h3⟩
    exact ⟨_, 0, 0, rfl, hb, .inr ⟨rfl, tb, lb, cp, mb, rfl, hT, h1, h2, h3⟩⟩
  · refine (new_no a cap l w hC hok).mono ?_
    rintro e w' ⟨rfl, hd⟩
    exact ⟨_, _, _, rfl, below_draw hd, .inl ⟨rfl, hok⟩⟩

theorem owns_raise {w : World} {B n : Nat} {e : TypeId} {v : Value} {xs : List Value} (h : w.ownsRow 0 e 1 v n xs) (hB : ∀ b, v.ownBlock = some b → B ≤ b) : w.ownsRow B e 1 v n xs := by
  obtain ⟨h1, h2⟩ := h
  refine ⟨h1, ?_⟩
  rcases h2 with h2 | ⟨g, cap, cur, rfl, h3, h4⟩
  · exact .inl h2
  · exact .inr ⟨g, cap, cur, rfl, hB g rfl, h4⟩

theorem cells_lit (w : World) (cs : Array Value) (t : TypeId) : ∀ j u, cs.toList[j]? = some u → (w.alloc (.cells cs t)).cell? ((⟨w.heap.size, 0, none⟩ : Addr).add j) = some u :=
  cells_src (cells_new w cs t) (Go.RowKit.Below.refl _ _)

theorem below_two {B g : Nat} {w0 w w1 : World} {ob : Option Nat} (hb : Go.RowKit.Below B w0 w) (h : Two w w1 ob g) (hob : ∀ b, ob = some b → B ≤ b) (hs : B ≤ w.heap.size) : Go.RowKit.Below B w0 w1 :=
  hb.grown h.grown hs (fun k hk => hob k hk)

/-- The cells of a row, one by one. -/
theorem wide_cells {w : World} {B g cp : Nat} {s : List Nat} (h : w.ownsRow B 35 1 (.slice (some ⟨g, 0, none⟩) (s.length + 3) cp) (s.length + 3) (labCells (s ++ [161, 162, 163]))) :
    ∀ i, i < s.length + 3 → w.cell? ⟨g, i, none⟩ = some (.int .u64 ((s ++ [161, 162, 163]).getD i 0 : Nat)) := fun i hi => by
  rw [h.cellAt i (by omega), lab_at _ i (by simp; omega)]

theorem wide_pre {w : World} {B g cp : Nat} {s : List Nat} (h : w.ownsRow B 35 1 (.slice (some ⟨g, 0, none⟩) (s.length + 3) cp) (s.length + 3) (labCells (s ++ [161, 162, 163]))) : Cells w (some ⟨g, 0, none⟩) (labCells s) := fun _ => ⟨g, 0, rfl, fun i u hu => by
  have hi : i < s.length := by
    rcases Nat.lt_or_ge i s.length with h | h
    · exact h
    · rw [List.getElem?_eq_none (by rw [labCells_len]; exact h)] at hu; cases hu
  rw [lab_at s i hi] at hu
  cases hu
  rw [Nat.zero_add, wide_cells h i (by omega)]
  simp [List.getD_eq_getElem?_getD, List.getElem?_append_left hi]⟩

theorem wide_cap {w : World} {B g n cp : Nat} {xs : List Value} (h : w.ownsRow B 35 1 (.slice (some ⟨g, 0, none⟩) n cp) n xs) : n ≤ cp := by
  rcases h.2 with ⟨h', _⟩ | ⟨g', cap', cur, h', _, _, hn, _⟩
  · simp at h'
  · simp only [Value.slice.injEq, Option.some.injEq, Addr.mk.injEq, and_true, true_and] at h'
    obtain ⟨rfl, rfl⟩ := h'
    exact hn

set_option maxRecDepth 100000 in
set_option maxHeartbeats 8000000 in
theorem tableKeeps_walk (a : Option Addr) (cap : Nat) (l : List Nat) (q : Nat) (w : World) (hC : Cells w a (labCells l)) (hcp : l.length ≤ cap) (hlw : ∀ i, l.getD i 0 < 18446744073709551616) (hq : q < 18446744073709551616) :
    Calls Try.prog 7 #[.slice a l.length cap, .int .u64 q] w fun e w' => e = .returned (.bool true) ∧ Go.RowKit.Below w.heap.size w w' := by
  obtain ⟨s, hs, hsl⟩ := take_lab l 1048576
  have hCs : Cells w a (labCells s) := by rw [hs]; exact cells_take_lab hC 1048576
  have hsw : ∀ i, s.getD i 0 < 18446744073709551616 := by rw [hs]; exact getD_take_lt hlw 1048576
  obtain ⟨f, hf, hfl⟩ := take_lab s 300
  have hCf : Cells w a (labCells f) := by rw [hf]; exact cells_take_lab hCs 300
  have hfs : Hid (f = s.take 300) := hf
  have e1 := cutM l.length
  have e2 := cut300 s.length
  rw [← hsl] at e1
  rw [← hfl] at e2
  have b1 : s.length ≤ l.length := by omega
  have b2 : s.length ≤ 1048576 := by omega
  have b3 : f.length ≤ s.length := by omega
  have b4 : f.length ≤ 300 := by omega
  have hsh := fun w => short_any a cap l.length s.length w e1 b1 hcp
  have hsn : a = none → s.length = 0 := fun e => cells_none (w := w) (by rw [← e]; exact hCs)
  clear hs hsl hf hfl e1 hC hlw hcp
  generalize l.length = nl at *
  go_enter Try.func7, Try.ntmps7
  go_wp2_with fail
  refine (awake_any _).mono ?_
  rintro e w1 ⟨rfl, B1⟩
  go_wp2_with fail
  refine (hsh w1).mono ?_
  rintro e w1 ⟨rfl, rfl⟩
  clear hsh
  go_wp2_with fail
  refine (wide_any a s.length s w1 (hCs.kept B1) hsn (by omega)).mono ?_
  rintro e w2 ⟨g, cp, rfl, ho2, hb2⟩
  have B2 := below_step B1 hb2
  have hg1 : w1.heap.size ≤ g ∧ g < w2.heap.size := ho2.lt g rfl
  have hcp3 := wide_cap ho2
  clear hb2
  go_wp2_with fail
  refine (may_any (some ⟨g, 0, none⟩) cp s w2 (wide_pre ho2)).mono ?_
  rintro e w3 ⟨rfl, hd3⟩
  have B3 := below_step B2 (below_draw hd3)
  have ho3 := owns_below ho2 (below_draw hd3)
  have hg3 : g < w3.heap.size := Nat.lt_of_lt_of_le hg1.2 (below_draw hd3).size
  clear hd3 ho2 B2
  have hCg3 : Cells w3 (some ⟨g, 0, none⟩) (labCells f) := by rw [hfs.out]; exact cells_take_lab (wide_pre ho3) 300
  go_wp2_with fail
  refine (canon_any (some ⟨g, 0, none⟩) cp f w3 hCg3 (by omega)).mono ?_
  rintro e w4 ⟨vx, cx, hcx, rfl, hox, hb4⟩
  have B4 := below_step B3 hb4
  have ho4 := owns_below ho3 hb4
  clear ho3 B3
  have hCg4 := hCg3.kept hb4
  have hs34 : w3.heap.size ≤ w4.heap.size := hb4.size
  clear hCg3 hb4
  go_wp2_with fail
  refine (canon_any (some ⟨g, 0, none⟩) cp f w4 hCg4 (by omega)).mono ?_
  rintro e w5 ⟨vy, cy, hcy, rfl, hoy, hb5⟩
  obtain rfl : cx = cy := canon_unique hcx hcy
  have B5 := below_step B4 hb5
  have ho5 := owns_below ho4 hb5
  have hox5 := owns_below hox hb5
  have hs45 : w4.heap.size ≤ w5.heap.size := hb5.size
  clear ho4 B4 hCg4 hb5 hcy
  go_wp2_with fail
  refine (new_both (some ⟨g, 0, none⟩) cp s w5 (wide_pre ho5) hsw).mono ?_
  rintro e w6 ⟨tv, er, pl, rfl, hb6, hnew⟩
  have B6 := below_step B5 hb6
  have ho6 := owns_below ho5 hb6
  have hox6 := owns_below hox5 hb6
  have hoy6 := owns_below hoy hb6
  have hs56 : w5.heap.size ≤ w6.heap.size := hb6.size
  have hlx : ∀ b, vx.ownBlock = some b → w3.heap.size ≤ b ∧ b < w4.heap.size := fun b hb => hox.lt b hb
  have hly : ∀ b, vy.ownBlock = some b → w4.heap.size ≤ b ∧ b < w5.heap.size := fun b hb => hoy.lt b hb
  clear ho5 B5 hb6 hox5 hox hoy
  go_wp2_with fail
  refine (kept_any g cp a s.length s w6 (by omega) (wide_cells ho6) hcp3 (hCs.kept B6)).mono ?_
  rintro e w7 ⟨rfl, hb7⟩
  have B7 := below_step B6 hb7
  have ho7 := owns_below ho6 hb7
  have hox7 := owns_below hox6 hb7
  have hoy7 := owns_below hoy6 hb7
  have hs67 : w6.heap.size ≤ w7.heap.size := hb7.size
  have hnew7 : (tv = .pointer none ∧ er ≠ 0) ∨ (er = 0 ∧ ∃ tb lb tc mb, tv = .pointer (some ⟨tb, 0, none⟩) ∧ Tab w7 tb lb tc mb s ∧ w5.heap.size ≤ tb ∧ w5.heap.size ≤ lb ∧ w5.heap.size ≤ mb) := by
    rcases hnew with h | ⟨h0, tb, lb, tc, mb, h1, h2, h3⟩
    · exact .inl h
    · exact .inr ⟨h0, tb, lb, tc, mb, h1, h2.kept hb7, h3⟩
  clear ho6 hox6 hoy6 hb7 hnew B6
  have hnew7 : Hid _ := hnew7
  have hch1 := Chain.start ho7
  go_wp2_with fail
  go_loopw [54] (fun v54 wr => ∃ (i : Nat) (xs : List Value), i ≤ s.length ∧ v54 = .int .i64 i ∧ Chain w7 (some g) 35 (.slice (some ⟨g, 0, none⟩) (s.length + 3) cp) (s.length + 3) xs wr ∧ Hid (∀ t, i ≤ t → t < s.length → ∃ y, xs[t]? = some y ∧ y = .int .u64 (s.getD t 0 : Nat))) (fun v54 _ => s.length - (intOf v54).toNat)
  case atStart => exact ⟨0, _, Nat.zero_le _, rfl, hch1, fun t _ ht => ⟨_, lab_at _ t (by simp; omega), by simp [List.getD_eq_getElem?_getD, List.getElem?_append_left ht]⟩⟩
  case round =>
    obtain ⟨i, xs, hi, rfl, hch, hxs⟩ := hrel
    by_cases hlt : i < s.length
    · have hlt' : (i : Int) < (s.length : Int) := by omega
      obtain ⟨y, hy1, rfl⟩ := hxs.out i (Nat.le_refl _) hlt
      have hcell : wr.cell? ⟨g, i, none⟩ = some (.int .u64 (s.getD i 0 : Nat)) := by rw [hch.own.cellAt i (by omega), hy1]
      have hfree : wr.frozen? ⟨g, i, none⟩ = false := hch.own.frozenAt i
      have hput := fun u => hch.put i u
      have htail := fun u => set_tail (u := u) (Q := fun t y => y = Value.int .u64 (s.getD t 0 : Nat)) hxs.out
      generalize s.getD i 0 = z at hcell
      clear hy1 hxs hch hCs hCf hox7 hoy7 ho7 hch1
      go_wp2
      exact ⟨⟨i + 1, _, by omega, by go_num, hput _, htail _⟩, by simp [intOf]; omega⟩
    · have hltd : decide ((i : Int) < (s.length : Int)) = false := by simp; omega
      have hge : (s.length : Int) ≤ (i : Int) := by omega
      clear hxs
      have hgr := hch.grown
      have Br : Go.RowKit.Below w.heap.size w wr := below_chain B7 B7.size hgr (fun b hb => by cases hb; have := B1.size; omega)
      have hoxr := owns_grown hox7 hgr (fun b hb => by have := hlx b hb; simp; omega)
      have hoyr := owns_grown hoy7 hgr (fun b hb => by have := hly b hb; simp; omega)
      have hnewr : Hid ((tv = .pointer none ∧ er ≠ 0) ∨ (er = 0 ∧ ∃ tb lb tc mb, tv = .pointer (some ⟨tb, 0, none⟩) ∧ Tab wr tb lb tc mb s ∧ w5.heap.size ≤ tb ∧ w5.heap.size ≤ lb ∧ w5.heap.size ≤ mb)) := by
        rcases hnew7.out with h | ⟨h0, tb, lb, tc, mb, h1, h2, h3, h4, h5⟩
        · exact .inl h
        · exact .inr ⟨h0, tb, lb, tc, mb, h1, tab_grown h2 hgr (by simp; omega) (by simp; omega) (by simp; omega), h3, h4, h5⟩
      have hsr : w7.heap.size ≤ wr.heap.size := hgr.size
      clear hch hgr hox7 hoy7 ho7 hch1 hnew7 B7
      go_wp2_with fail
      refine (rcanon_any a s.length f wr (hCf.kept Br) (by omega)).mono ?_
      rintro e w8 ⟨vw, cw, hcw, rfl, how, hb8⟩
      obtain rfl : cx = cw := canon_unique hcx hcw
      have B8 := below_step Br hb8
      have hox8 := owns_below hoxr hb8
      have hoy8 := owns_below hoyr hb8
      have hlw : ∀ b, vw.ownBlock = some b → wr.heap.size ≤ b := fun b hb => (how.lt b hb).1
      have hnew8 : Hid ((tv = .pointer none ∧ er ≠ 0) ∨ (er = 0 ∧ ∃ tb lb tc mb, tv = .pointer (some ⟨tb, 0, none⟩) ∧ Tab w8 tb lb tc mb s ∧ w5.heap.size ≤ tb ∧ w5.heap.size ≤ lb ∧ w5.heap.size ≤ mb)) := by
        rcases hnewr.out with h | ⟨h0, tb, lb, tc, mb, h1, h2, h3⟩
        · exact .inl h
        · exact .inr ⟨h0, tb, lb, tc, mb, h1, h2.kept hb8, h3⟩
      have hs8 : wr.heap.size ≤ w8.heap.size := hb8.size
      have hcl : cx.length ≤ 300 := by
        have := rising_len f cx hcx.1 (fun x hx => (hcx.2 x).1 hx)
        omega
      clear hb8 hoxr hoyr hnewr Br hcx hcw
      obtain ⟨wA, rfl⟩ : ∃ W, W = wr := ⟨_, rfl⟩
      obtain ⟨ax, kx, rfl, hCx, _, hnx⟩ := cells_of_owns hox8
      obtain ⟨ay, ky, rfl, hCy, _, _⟩ := cells_of_owns hoy8
      obtain ⟨aw, kw, rfl, hCw, _, _⟩ := cells_of_owns how
      go_wp2_with fail
      refine (sameLabels_at _ _ ax aw kx kw cx w8 rfl rfl hCx hCw (by omega)).mono ?_
      rintro e w9 ⟨rfl, hb9⟩
      go_wp2_with fail
      refine (sameLabels_at _ _ ay aw ky kw cx w9 rfl rfl (hCy.kept hb9) (hCw.kept hb9) (by omega)).mono ?_
      rintro e w10 ⟨rfl, hb10⟩
      have hb810 := below_step hb9 hb10
      have B10 := below_step B8 hb810
      have hox10 := owns_below hox8 hb810
      have hoy10 := owns_below hoy8 hb810
      have how10 := owns_below how hb810
      have hnew10 : Hid ((tv = .pointer none ∧ er ≠ 0) ∨ (er = 0 ∧ ∃ tb lb tc mb, tv = .pointer (some ⟨tb, 0, none⟩) ∧ Tab w10 tb lb tc mb s ∧ w5.heap.size ≤ tb ∧ w5.heap.size ≤ lb ∧ w5.heap.size ≤ mb)) := by
        rcases hnew8.out with h | ⟨h0, tb, lb, tc, mb, h1, h2, h3⟩
        · exact .inl h
        · exact .inr ⟨h0, tb, lb, tc, mb, h1, h2.kept hb810, h3⟩
      clear hb9 hb10 hox8 hoy8 how hCx hCy hCw hnew8 B8
      have hch2 := Chain.start hox10
      obtain ⟨ob, hob⟩ : ∃ ob, Hid (ob = (Value.slice ax cx.length kx).ownBlock) := ⟨_, rfl⟩
      rw [← hob.out] at hch2
      have hobl : ∀ b, ob = some b → w3.heap.size ≤ b ∧ b < w4.heap.size := fun b hb => hlx b (by rw [← hob.out]; exact hb)
      clear hob hlx
      go_wp2_with fail
      go_loopw [82] (fun v82 wx => ∃ (i : Nat) (xs : List Value), i ≤ cx.length ∧ v82 = .int .i64 i ∧ Chain w10 ob 35 (.slice ax cx.length kx) cx.length xs wx) (fun v82 _ => cx.length - (intOf v82).toNat)
      case atStart => exact ⟨0, _, Nat.zero_le _, rfl, hch2⟩
      case round =>
        obtain ⟨i2, xs, hi2, rfl, hch⟩ := hrel
        by_cases hlt2 : i2 < cx.length
        · have hlt2' : (i2 : Int) < (cx.length : Int) := by omega
          obtain ⟨gx, kx', hform, _, _⟩ := hch.own.form (by omega)
          simp only [Value.slice.injEq, true_and] at hform
          obtain ⟨rfl, rfl⟩ := hform
          have hlen2 : xs.length = cx.length := by simpa using hch.own.1
          have hcell : wr.cell? ⟨gx, i2, none⟩ = some xs[i2] := by rw [hch.own.cellAt i2 (by omega), List.getElem?_eq_getElem (by omega)]
          have hfree : wr.frozen? ⟨gx, i2, none⟩ = false := hch.own.frozenAt i2
          have hput := fun u => hch.put i2 u
          generalize xs[i2] = z at hcell
          clear hch hCs hCf hoy10 how10 hox10 hch2 hlen2
          go_wp2
          exact ⟨⟨i2 + 1, _, by omega, by go_num, hput _⟩, by simp [intOf]; omega⟩
        · have hltd2 : decide ((i2 : Int) < (cx.length : Int)) = false := by simp; omega
          have hge2 : (cx.length : Int) ≤ (i2 : Int) := by omega
          obtain ⟨i0, hi, hz0, hz1, hz2⟩ := info_parts info35
          clear hch2 hox10
          go_wp2_with fail
          go_loopw [6, 89] (fun v6 v89 wx => ∃ (i : Nat) (xs : List Value), i ≤ 20 ∧ v89 = .int .i64 i ∧ Chain w10 ob 35 v6 (cx.length + i) xs wx) (fun _ v89 _ => 20 - (intOf v89).toNat)
          case atStart => exact ⟨0, _, Nat.zero_le _, rfl, hch⟩
          case round =>
            clear hch
            obtain ⟨i3, ys, hi3, rfl, hch⟩ := hrel
            by_cases hlt3 : i3 < 20
            · have hlt3' : (i3 : Int) < 20 := by omega
              go_wp2_with (first | (at_builtin; refine wpList_append_lies _ rfl _ _ 23 rfl 0 35 i0 (.int .u64 0) 1 8 Try.underlying23 hi hz0 hz1 hz2 rfl (by decide) _ _ _ rfl (hch.alloc _).own ⟨wr.heap.size, 0, none⟩ 1 1 [.int .u64 8] rfl rfl (one_cell_at _) (fun u hu => by simp at hu; subst hu; rfl) (by decide) (by unfold maxLen; omega) (by omega) (Nat.zero_le _) _ rfl ?_; intro g6 cap6 w11 ho6 hg6 hat6 hlt6; have hch6 := (hch.alloc _).append ho6 hg6 hat6) | fail)
              exact ⟨⟨i3 + 1, _, by omega, by go_num, hch6⟩, by simp [intOf]; omega⟩
            · have hltd3 : decide ((i3 : Int) < 20) = false := by simp; omega
              have hge3 : (20 : Int) ≤ (i3 : Int) := by omega
              have hgr := hch.grown
              have B11 : Go.RowKit.Below w.heap.size w wr := below_chain B10 B10.size hgr (fun b hb => by have := hobl b hb; have := B1.size; omega)
              have hoy11 := owns_grown hoy10 hgr (fun b hb e => by have h1 := hly b hb; have h2 := hobl b e.symm; omega)
              have how11 := owns_grown how10 hgr (fun b hb e => by have h1 := hlw b hb; have h2 := hobl b e.symm; omega)
              obtain ⟨ay', ky', eay, hCy, _, _⟩ := cells_of_owns hoy11
              obtain ⟨aw', kw', eaw, hCw, _, _⟩ := cells_of_owns how11
              cases eay
              cases eaw
              have hnew11 : (tv = .pointer none ∧ er ≠ 0) ∨ (er = 0 ∧ ∃ tb lb tc mb, tv = .pointer (some ⟨tb, 0, none⟩) ∧ Tab wr tb lb tc mb s) := by
                rcases hnew10.out with h | ⟨h0, tb, lb, tc, mb, h1, h2, h3, h4, h5⟩
                · exact .inl h
                · exact .inr ⟨h0, tb, lb, tc, mb, h1, tab_grown h2 hgr (fun e => by have := hobl tb e.symm; omega) (fun e => by have := hobl lb e.symm; omega) (fun e => by have := hobl mb e.symm; omega)⟩
              clear hch hgr hoy10 how10 hnew10 B10 hoy11 how11 hly hlw hobl
              have hsame := sameLabels_at _ _ ay aw ky kw cx wr rfl rfl hCy hCw (by omega)
              clear hCy hCw
              rcases hnew11 with ⟨rfl, her⟩ | ⟨rfl, tb, lb, tc, mb, rfl, hT⟩
              · have t1 : ((er : Int) == 0) = false := by rw [beq_eq_false_iff_ne]; omega
                go_wp2_with fail
                refine hsame.mono ?_
                rintro e w12 ⟨rfl, hb12⟩
                go_wp2
                go_ret
                exact ⟨rfl, below_step B11 hb12⟩
              · go_wp2_with fail
                refine hsame.mono ?_
                rintro e w12 ⟨rfl, hb12⟩
                have B12 := below_step B11 hb12
                have hT12 := hT.kept hb12
                clear hT hsame B11 hb12
                obtain ⟨j0, hj, hjz0, hjz1, hjz2⟩ := info_parts info33
                have hs8 : s.length ≤ 8 := hT12.len
                have hB12 : w.heap.size ≤ w12.heap.size := B12.size
                have hCs0 : Hid (Cells w a (labCells s)) := hCs
                clear hCs hCf hnx
                go_wp2_with fail
                go_loopw [14, 109] (fun v14 v109 wx => ∃ (k : Nat) (vs : List Value), k ≤ 2 ∧ vs.length = 3 * k ∧ v109 = .int .i64 k ∧ wx.ownsRow w12.heap.size 33 1 v14 vs.length vs ∧ OwnRows wx v14.ownBlock w12.heap.size vs ∧ Go.RowKit.Below w12.heap.size w12 wx) (fun _ v109 _ => 2 - (intOf v109).toNat)
                case atStart => exact ⟨0, [], by omega, rfl, rfl, World.ownsRow_made w12 #[] 0 (Nat.le_refl _) (Nat.zero_le _) (by simp), OwnRows.nil _ _ _ (fun b hb => by cases hb; simp), (Go.RowKit.Below.refl _ _).alloc (Nat.le_refl _) _⟩
                case round =>
                  obtain ⟨k, vs, hk2, hvs, rfl, hrow, hR, hbr⟩ := hrel
                  by_cases hlk : k < 2
                  · have hlk' : (k : Int) < 2 := by omega
                    go_wp2_with fail
                    refine (down_any (hT12.kept hbr) q hq).mono ?_
                    rintro e w13 ⟨v1, rfl, ho1, hb1⟩
                    have hbr1 := below_step hbr hb1
                    have hR1 := hR.push hb1 ho1 (by have := downTo_len s q s.length; omega) hbr.size
                    have hrow1 := owns_below hrow hb1
                    go_wp2_with fail
                    refine (up_any (hT12.kept hbr1) 0).mono ?_
                    rintro e w14 ⟨v2, rfl, ho2', hb2⟩
                    have hbr2 := below_step hbr1 hb2
                    have hR2 := hR1.push hb2 ho2' (by have := upTo_len s 0 s.length; omega) hbr1.size
                    have hrow2 := owns_below hrow1 hb2
                    go_wp2_with fail
                    refine (up_any (hT12.kept hbr2) ((s.length : Int) - 1)).mono ?_
                    rintro e w15 ⟨v3, rfl, ho3', hb3⟩
                    have hbr3 := below_step hbr2 hb3
                    have hR3 := hR2.push hb3 ho3' (by have := upTo_len s ((s.length : Int) - 1) s.length; omega) hbr2.size
                    have hrow3 := owns_below hrow2 hb3
                    obtain ⟨a1, c1, rfl, _, _, _⟩ := cells_of_owns ho1
                    obtain ⟨a2, c2, rfl, _, _, _⟩ := cells_of_owns ho2'
                    obtain ⟨a3, c3, rfl, _, _, _⟩ := cells_of_owns ho3'
                    clear hrow hrow1 hrow2 hR hR1 hR2 ho1 ho2' ho3' hb1 hb2 hb3 hbr hbr1 hbr2
                    generalize (downTo s q s.length).length = n1 at *
                    generalize (upTo s 0 s.length).length = n2 at *
                    generalize (upTo s ((s.length : Int) - 1) s.length).length = n3 at *
                    rw [List.append_assoc, List.append_assoc] at hR3
                    simp only [List.cons_append, List.nil_append] at hR3
                    have hRa := fun o => hR3.alloc o
                    have hrowa := fun o => ownsRow_zero (hrow3.alloc o)
                    have hba := fun o => hbr3.alloc hbr3.size o
                    go_wp2_with (first | (at_builtin; refine wpList_append_two _ rfl _ _ 50 rfl 33 j0 (.slice none 0 0) 24 Try.underlying50 hj hjz0 hjz1 hjz2 rfl _ _ vs rfl (hrowa _) ⟨w15.heap.size, 0, none⟩ 3 3 [.slice a1 n1 c1, .slice a2 n2 c2, .slice a3 n3 c3] rfl rfl (cells_lit w15 _ _) (fun u hu => by simp at hu; rcases hu with rfl | rfl | rfl <;> rfl) (by decide) (by unfold maxLen; omega) (by omega) ?_; intro g16 cap16 w16 ho16 h16) | fail)
                    have hg16 := (ho16.lt g16 rfl).2
                    have hob := fun b hb => (hrow3.lt b hb).1
                    have hlen16 : (vs ++ [Value.slice a1 n1 c1, Value.slice a2 n2 c2, Value.slice a3 n3 c3]).length = 3 * k + 3 := by simp [hvs]
                    have ho17 : w16.ownsRow w12.heap.size 33 1 (Value.slice (some ⟨g16, 0, none⟩) (3 * k + 3) cap16) (vs ++ [Value.slice a1 n1 c1, Value.slice a2 n2 c2, Value.slice a3 n3 c3]).length (vs ++ [Value.slice a1 n1 c1, Value.slice a2 n2 c2, Value.slice a3 n3 c3]) := by
                      rw [hlen16]
                      refine owns_raise (by first | exact ho16 | (rw [← hvs]; exact ho16)) (fun b hb => ?_)
                      have e' : g16 = b := by simpa [Value.ownBlock] using hb
                      subst e'
                      rcases Two.at h16 with h | h
                      · exact hob g16 h
                      · rw [h]; exact (hba _).size
                    exact ⟨⟨k + 1, vs ++ [Value.slice a1 n1 c1, Value.slice a2 n2 c2, Value.slice a3 n3 c3], by omega, by rw [hlen16]; omega, by go_num, ho17, (hRa _).two h16 hg16, below_two (hba _) h16 hob (hba _).size⟩, by simp [intOf]; omega⟩
                  · have hltk : decide ((k : Int) < 2) = false := by simp; omega
                    have hgek : (2 : Int) ≤ (k : Int) := by omega
                    have hvs6 : vs.length = 6 := by omega
                    obtain ⟨ga, ca, hform, hgaB, _⟩ := hrow.form (by omega)
                    subst hform
                    obtain ⟨k0, hk, hkz0, hkz1, hkz2⟩ := info_parts info3
                    obtain ⟨wS, hwS⟩ : ∃ W, W = wr := ⟨_, rfl⟩
                    subst hwS
                    rw [hvs6] at hrow ⊢
                    clear hvs
                    have hR' : OwnRows wS (some ga) w12.heap.size vs := hR
                    have hL0 : Long wS w12.heap.size (.slice (some ⟨ga, 0, none⟩) 6 ca) vs 0 (.slice (some ⟨wS.heap.size, 0, none⟩) 0 0) [] (wS.alloc (.cells #[] 33)) := Long.start hR' (by rw [hvs6]; exact hrow) ((Go.RowKit.Below.refl _ _).alloc (Nat.le_refl _) _) (World.ownsRow_made wS #[] 0 (Nat.zero_le _) (Nat.zero_le _) (by simp)) (fun b hb => by cases hb; exact Nat.le_refl _)
                    go_wp2_with fail
                    go_loopw [15, 128] (fun v15 v128 wx => ∃ (i : Nat) (Ls : List Value), i ≤ 6 ∧ v128 = .int .i64 i ∧ Long wS w12.heap.size (.slice (some ⟨ga, 0, none⟩) 6 ca) vs i v15 Ls wx ∧ Go.RowKit.Below w12.heap.size w12 wx) (fun _ v128 _ => 6 - (intOf v128).toNat)
                    case atStart => exact ⟨0, [], by omega, rfl, hL0, hbr.alloc hbr.size _⟩
                    case round =>
                      clear hL0
                      obtain ⟨i5, Ls, hi5, rfl, hL, hbL⟩ := hrel
                      by_cases hlt5 : i5 < 6
                      · have hlt5' : (i5 : Int) < 6 := by omega
                        obtain ⟨v5, hv5⟩ : ∃ v, vs[i5]? = some v := ⟨_, List.getElem?_eq_getElem (by omega)⟩
                        obtain ⟨n, xs, hn8, hov⟩ := hL.todo i5 v5 (Nat.le_refl _) hv5
                        obtain ⟨a5, c5, rfl, _, _, _⟩ := cells_of_owns hov
                        have harow := hL.arow
                        rw [hvs6] at harow
                        have hcall : wr.cell? ⟨ga, i5, none⟩ = some (.slice a5 n c5) := by rw [harow.cellAt i5 (by omega), hv5]
                        clear harow
                        have hch6 := Chain.start hov
                        obtain ⟨ob5, hob5⟩ : ∃ o, Hid (o = (Value.slice a5 n c5).ownBlock) := ⟨_, rfl⟩
                        rw [← hob5.out] at hch6
                        obtain ⟨wR, hwR⟩ : ∃ W, W = wr := ⟨_, rfl⟩
                        subst hwR
                        go_wp2_with fail
                        go_loopw [135] (fun v135 wx => ∃ (k : Nat) (xs : List Value), k ≤ n ∧ v135 = .int .i64 k ∧ Chain wR ob5 3 (.slice a5 n c5) n xs wx ∧ Hid (∀ t, t < k → xs[t]? = some (mark i5))) (fun v135 _ => n - (intOf v135).toNat)
                        case atStart => exact ⟨0, _, Nat.zero_le _, rfl, hch6, fun t ht => absurd ht (Nat.not_lt_zero t)⟩
                        case round =>
                          clear hch6
                          obtain ⟨k6, ys, hk6, rfl, hch, hys⟩ := hrel
                          by_cases hlt6 : k6 < n
                          · have hlt6' : (k6 : Int) < (n : Int) := by omega
                            obtain ⟨g5, c5', hform5, _, _⟩ := hch.own.form (by omega)
                            simp only [Value.slice.injEq, true_and] at hform5
                            obtain ⟨rfl, rfl⟩ := hform5
                            have hlen6 : ys.length = n := by simpa using hch.own.1
                            have hcell : wr.cell? ⟨g5, k6, none⟩ = some ys[k6] := by rw [hch.own.cellAt k6 (by omega), List.getElem?_eq_getElem (by omega)]
                            have hfree : wr.frozen? ⟨g5, k6, none⟩ = false := hch.own.frozenAt k6
                            have hput := hch.put k6 (mark i5)
                            have hys' : Hid (∀ t, t < k6 + 1 → (ys.set k6 (mark i5))[t]? = some (mark i5)) := fun t ht => by
                              by_cases e : t = k6
                              · subst e; rw [List.getElem?_set_self (by omega)]
                              · rw [List.getElem?_set_ne (by omega)]; exact hys.out t (by omega)
                            generalize ys[k6] = z at hcell
                            clear hch hys hov hL hR hR' hrow
                            go_wp2
                            exact ⟨⟨k6 + 1, _, by omega, by go_num, hput, hys'⟩, by simp [intOf]; omega⟩
                          · have hltd6 : decide ((k6 : Int) < (n : Int)) = false := by simp; omega
                            have hge6 : (n : Int) ≤ (k6 : Int) := by omega
                            have hys6 : ys = List.replicate n (mark i5) := by
                              apply List.ext_getElem?
                              intro t
                              have hlen6 : ys.length = n := by simpa using hch.own.1
                              by_cases ht : t < n
                              · rw [hys.out t (by omega), List.getElem?_replicate, if_pos ht]
                              · rw [List.getElem?_eq_none (by omega), List.getElem?_replicate, if_neg ht]
                            rw [hys6] at hch
                            have hold : Hid (∀ t, t < n → ∃ b, a5 = some ⟨b, 0, none⟩ ∧ wr.cell? ⟨b, t, none⟩ = some (mark i5)) := fun t ht => by
                              obtain ⟨g5, c5', hform5, _, _⟩ := hch.own.form (by omega)
                              simp only [Value.slice.injEq, true_and] at hform5
                              obtain ⟨rfl, rfl⟩ := hform5
                              exact ⟨g5, rfl, by rw [hch.own.cellAt t (by omega), List.getElem?_replicate, if_pos ht]⟩
                            clear hys hys6 hov
                            go_wp2_with fail
                            go_loopw [17, 144] (fun v17 v144 wx => ∃ (k : Nat), k ≤ 20 ∧ v144 = .int .i64 k ∧ Chain wR ob5 3 v17 (n + k) (List.replicate (n + k) (mark i5)) wx ∧ Hid (∀ t, t < n → ∃ b, a5 = some ⟨b, 0, none⟩ ∧ wx.cell? ⟨b, t, none⟩ = some (mark i5))) (fun _ v144 _ => 20 - (intOf v144).toNat)
                            case atStart => exact ⟨0, Nat.zero_le _, rfl, hch, hold⟩
                            case round =>
                              clear hch hold
                              obtain ⟨k7, hk7, rfl, hch, hold⟩ := hrel
                              by_cases hlt7 : k7 < 20
                              · have hlt7' : (k7 : Int) < 20 := by omega
                                have hcha := fun o => hch.alloc o
                                have hco : ∀ o t, t < n → ∃ b, a5 = some ⟨b, 0, none⟩ ∧ (wr.alloc o).cell? ⟨b, t, none⟩ = some (mark i5) := fun o t ht => by
                                  obtain ⟨b, h1, h2⟩ := hold.out t ht
                                  exact ⟨b, h1, cell_alloc_keep o h2⟩
                                have hco : Hid _ := hco
                                have hrep : List.replicate (n + k7) (mark i5) ++ [mark i5] = List.replicate (n + (k7 + 1)) (mark i5) := by
                                  rw [← Nat.add_assoc, List.replicate_succ']
                                go_wp2_with (first | (at_builtin; refine wpList_append_two _ rfl _ _ 33 rfl 3 k0 (.int .i64 0) 8 Try.underlying33 hk hkz0 hkz1 hkz2 rfl _ _ _ rfl (hcha _).own ⟨wr.heap.size, 0, none⟩ 1 1 [mark i5] rfl rfl (cells_lit wr #[mark i5] _) (fun u hu => by simp at hu; subst hu; rfl) (by decide) (by unfold maxLen; omega) (by omega) ?_; intro g17 cap17 w17 ho17 h17) | fail)
                                rw [hrep] at ho17
                                have hch17 := (hcha _).append ho17 (Two.grown h17) (Two.at h17)
                                have hold17 : Hid (∀ t, t < n → ∃ b, a5 = some ⟨b, 0, none⟩ ∧ w17.cell? ⟨b, t, none⟩ = some (mark i5)) := fun t ht => by
                                  obtain ⟨b, rfl, _⟩ := hco.out (.cells #[mark i5] 3) t ht
                                  exact ⟨b, rfl, cells_two (n := n) (fun k hk => by
                                    obtain ⟨b', h1, h2⟩ := hco.out (.cells #[mark i5] 3) k hk
                                    cases h1; exact h2) h17 ho17 (by omega) t ht⟩
                                exact ⟨⟨k7 + 1, by omega, by go_num, hch17, hold17⟩, by simp [intOf]; omega⟩
                              · have hltd7 : decide ((k7 : Int) < 20) = false := by simp; omega
                                have hge7 : (20 : Int) ≤ (k7 : Int) := by omega
                                have ek7 : k7 = 20 := by omega
                                rw [ek7] at hch
                                obtain ⟨gL, cL, hformL, _, _⟩ := hch.own.form (by omega)
                                subst hformL
                                have hlr := hL.lrow
                                have hlra : ∀ o, (wr.alloc o).ownsRow 0 33 1 _ i5 Ls := fun o => (owns_grown hlr hch.grown (fun b hb e => by
                                  have h1 := hL.vlS b hb
                                  have h2 := (hR'.lt hv5 (b := b) (by rw [← hob5.out]; exact e.symm)).2
                                  omega)).alloc o
                                have hLn := fun (o : Obj) (g cap : Nat) (w1 : World) (h1 : w1.ownsRow 0 33 1 (.slice (some ⟨g, 0, none⟩) (i5 + 1) cap) (i5 + 1) (Ls ++ [Value.slice (some ⟨gL, 0, none⟩) (n + 20) cL])) h2 => Long.next (o := o) (w1 := w1) (g := g) (cap := cap) hR' hL hv5 hn8 (by rw [hob5.out] at hch; exact hch) hold.out h1 h2
                                have hgrS := hch.grown
                                have hbL2 : Go.RowKit.Below w12.heap.size w12 wr := below_chain hbL hbL.size hgrS (fun b hb => (hR'.lt hv5 (b := b) (by rw [← hob5.out]; exact hb)).1)
                                have hvlB := hL.vlS
                                have hszS : w12.heap.size ≤ wS.heap.size := hbr.size
                                clear hlr hold hch hgrS hbL ek7
                                go_wp2_with (first | (at_builtin; refine wpList_append_two _ rfl _ _ 50 rfl 33 j0 (.slice none 0 0) 24 Try.underlying50 hj hjz0 hjz1 hjz2 rfl _ _ _ rfl (hlra _) ⟨wr.heap.size, 0, none⟩ 1 1 [Value.slice (some ⟨gL, 0, none⟩) (n + 20) cL] rfl rfl (cells_lit wr #[Value.slice (some ⟨gL, 0, none⟩) (n + 20) cL] _) (fun u hu => by simp at hu; subst hu; rfl) (by decide) (by unfold maxLen; omega) (by omega) ?_; intro g18 cap18 w18 ho18 h18) | fail)
                                exact ⟨⟨i5 + 1, _, by omega, by go_num, hLn _ g18 cap18 w18 ho18 h18, below_two (hbL2.alloc hbL2.size _) h18 (fun b hb => by have := hvlB b hb; omega) (hbL2.alloc hbL2.size _).size⟩, by simp [intOf]; omega⟩
                      · have hltd5 : decide ((i5 : Int) < 6) = false := by simp; omega
                        have hge5 : (6 : Int) ≤ (i5 : Int) := by omega
                        have ei5 : i5 = 6 := by omega
                        subst ei5
                        have hTL := hT12.kept hbL
                        obtain ⟨gl, cl, hforml, _, _⟩ := hL.lrow.form (by omega)
                        subst hforml
                        have hlr := hL.lrow
                        have hlen := hL.len
                        have harow := hL.arow
                        rw [hvs6] at harow
                        have hdone := hL.done
                        clear hL hR hR' hrow
                        have hB := below_step B12 hbL
                        have hw8 : ∀ i, s.getD i 0 < 18446744073709551616 := hsw
                        have hdone : Hid _ := hdone
                        go_wp2_with fail
                        go_loop [159] (fun v159 => ∃ i : Nat, i ≤ 6 ∧ v159 = .int .i64 i) (fun v159 => 6 - (intOf v159).toNat)
                        case atStart => exact ⟨0, by omega, rfl⟩
                        case round =>
                          obtain ⟨i8, hi8, rfl⟩ := hrel
                          by_cases hlt8 : i8 < 6
                          · have hlt8' : (i8 : Int) < 6 := by omega
                            obtain ⟨v8, hv8⟩ : ∃ v, vs[i8]? = some v := ⟨_, List.getElem?_eq_getElem (by omega)⟩
                            obtain ⟨L8, hL8⟩ : ∃ v, Ls[i8]? = some v := ⟨_, List.getElem?_eq_getElem (by omega)⟩
                            obtain ⟨a8, n8, c8, hn8, rfl, hc8, ho8⟩ := hdone.out i8 v8 L8 hv8 hL8
                            obtain ⟨h8, cL8, hform8, _, _⟩ := ho8.form (by omega)
                            subst hform8
                            have hcl : wr.cell? ⟨gl, i8, none⟩ = some (.slice (some ⟨h8, 0, none⟩) (n8 + 20) cL8) := by rw [hlr.cellAt i8 (by omega), hL8]
                            have hca : wr.cell? ⟨ga, i8, none⟩ = some (.slice a8 n8 c8) := by rw [harow.cellAt i8 (by omega), hv8]
                            obtain ⟨M, hM⟩ : ∃ M : Nat, Hid (M = 100 + i8) := ⟨_, rfl⟩
                            have eM : (100 : Int) + (i8 : Int) = (M : Int) := by rw [hM.out]; omega
                            have hmk : mark i8 = .int .i64 (M : Int) := by unfold mark; rw [eM]
                            rw [hmk] at ho8 hc8
                            have hcm : Hid (∀ k, k < n8 + 20 → wr.cell? ⟨h8, k, none⟩ = some (.int .i64 (M : Int))) := fun k hk => by
                              rw [ho8.cellAt k (by omega), List.getElem?_replicate, if_pos hk]
                            have hc8 : Hid (∀ k, k < n8 → ∃ b, a8 = some ⟨b, 0, none⟩ ∧ wr.cell? ⟨b, k, none⟩ = some (.int .i64 (M : Int))) := hc8
                            clear hmk
                            clear ho8 hv8 hL8 hdone hlr harow hTL
                            go_wp2_with fail
                            go_loop [166] (fun v166 => ∃ k : Nat, k ≤ n8 + 20 ∧ v166 = .int .i64 k) (fun v166 => n8 + 20 - (intOf v166).toNat)
                            case atStart => exact ⟨0, Nat.zero_le _, rfl⟩
                            case round =>
                              obtain ⟨k9, hk9, rfl⟩ := hrel
                              by_cases hlt9 : k9 < n8 + 20
                              · have hlt9' : (k9 : Int) < (n8 : Int) + 20 := by omega
                                have hx9 := hcm.out k9 hlt9
                                by_cases hin : k9 < n8
                                · have hin' : (k9 : Int) < (n8 : Int) := by omega
                                  obtain ⟨b9, rfl, hy9⟩ := hc8.out k9 hin
                                  clear hcm hc8
                                  go_wp2
                                  go_round
                                  case rel => exact ⟨k9 + 1, by omega, by go_num⟩
                                  case measure => simp [intOf]; omega
                                · have hind : decide ((k9 : Int) < (n8 : Int)) = false := by simp; omega
                                  have hin' : (n8 : Int) ≤ (k9 : Int) := by omega
                                  clear hcm hc8
                                  go_wp2
                                  go_round
                                  case rel => exact ⟨k9 + 1, by omega, by go_num⟩
                                  case measure => simp [intOf]; omega
                              · have hltd9 : decide ((k9 : Int) < (n8 : Int) + 20) = false := by simp; omega
                                have hge9 : (n8 : Int) + 20 ≤ (k9 : Int) := by omega
                                clear hcm hc8
                                go_wp2
                                exact ⟨⟨_, _, _, _, _, ⟨i8 + 1, by omega, by go_num⟩, rfl, rfl, rfl, rfl, rfl⟩, by simp [intOf]; omega⟩
                          · have hltd8 : decide ((i8 : Int) < 6) = false := by simp; omega
                            have hge8 : (6 : Int) ≤ (i8 : Int) := by omega
                            clear hdone hlr harow
                            have hCw := hCs0.out.kept hB
                            go_wp2_with fail
                            refine (down_any hTL q hq).mono ?_
                            rintro e w20 ⟨v1, rfl, ho1, hb1⟩
                            have hB1 := below_step hB hb1
                            go_wp2_with fail
                            refine (rdown_any a s.length s w20 (hCs0.out.kept hB1) hw8 (by omega) q hq).mono ?_
                            rintro e w21 ⟨v2, rfl, ho2', hb2⟩
                            have hB2 := below_step hB1 hb2
                            obtain ⟨a1, c1, rfl, hC1, _, _⟩ := cells_of_owns (owns_below ho1 hb2)
                            obtain ⟨a2, c2, rfl, hC2, _, _⟩ := cells_of_owns ho2'
                            go_wp2_with fail
                            refine (sameInts_at _ _ a1 a2 c1 c2 _ w21 rfl rfl hC1 hC2 (by have := downTo_len s q s.length; omega)).mono ?_
                            rintro e w22 ⟨rfl, hb3⟩
                            have hB3 := below_step hB2 hb3
                            have hT22 := hTL.kept (below_step (below_step hb1 hb2) hb3)
                            clear ho1 ho2' hC1 hC2 hb1 hb2 hb3 hB1 hB2 hCw
                            go_wp2_with fail
                            refine (up_any hT22 0).mono ?_
                            rintro e w23 ⟨v3, rfl, ho3', hb4⟩
                            have hB4 := below_step hB3 hb4
                            go_wp2_with fail
                            refine (rup_any a s.length s w23 (hCs0.out.kept hB4) hw8 (by omega) 0).mono ?_
                            rintro e w24 ⟨v4, rfl, ho4', hb5⟩
                            have hB5 := below_step hB4 hb5
                            obtain ⟨a3, c3, rfl, hC3, _, _⟩ := cells_of_owns (owns_below ho3' hb5)
                            obtain ⟨a4, c4, rfl, hC4, _, _⟩ := cells_of_owns ho4'
                            go_wp2_with fail
                            refine (sameInts_at _ _ a3 a4 c3 c4 _ w24 rfl rfl hC3 hC4 (by have := upTo_len s 0 s.length; omega)).mono ?_
                            rintro e w25 ⟨rfl, hb6⟩
                            go_wp2
                            go_ret
                            exact ⟨rfl, below_step hB5 hb6⟩
end Go.Proofs.Ytaikeeidjfcijaa
