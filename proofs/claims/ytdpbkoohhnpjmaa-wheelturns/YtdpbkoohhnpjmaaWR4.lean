/- The document's side: Pop. -/
import Derived.Test.YtdpbkoohhnpjmaaWR3
import Derived.Test.YtdpbkoohhnpjmaaWWI
namespace Go.Proofs.Ytdpbkoohhnpjmaa
open Go.RowKit Go.Sort Go.Shelf Go.Maps

/-- What the document's Pop leaves. -/
structure RPopTo (w : World) (b : Nat) (F : Nat → Prop) (w' : World) (out L' : List Th) (a : Option Addr) (c : Nat) : Prop where
  row : Row w' 3 1 a out.length c (idC out)
  new : ∀ k, blk a = some k → w.heap.size ≤ k
  mod : Mod F w w'
  wh : ∃ F', Rf w' b F' L' ∧ (∀ k, F' k → F k ∨ w.heap.size ≤ k) ∧ ∀ k, blk a = some k → ¬ F' k

theorem two_set {W : World} {g : Nat} {u0 u1 : Value} (h0 : W.cell? ⟨g, 0, none⟩ = some u0) (h1 : W.cell? ⟨g, 1, none⟩ = some u1) (x y : Value) : ((W.setCell ⟨g, 0, none⟩ x).setCell ⟨g, 1, none⟩ y).cell? ⟨g, 0, none⟩ = some x ∧ ((W.setCell ⟨g, 0, none⟩ x).setCell ⟨g, 1, none⟩ y).cell? ⟨g, 1, none⟩ = some y := by
  constructor
  · rw [cell_setCell_off _ g (by omega), World.cell?_setCell_same' _ _ _ (by rw [h0]; rfl)]
  · rw [World.cell?_setCell_same' _ _ _ (by rw [cell_setCell_off _ g (by omega), h1]; rfl)]

set_option maxRecDepth 100000 in
set_option maxHeartbeats 2000000 in
theorem rpop_any {w : World} {b : Nat} {F : Nat → Prop} {L : List Th} (h : Rf w b F L) (hG : GoodW L) (now : Int) (hL : L.length ≤ 4398046511104) :
    Calls Try.prog 11 #[.pointer (some ⟨b, 0, none⟩), .int .i64 now] w fun e w' => ∃ out L' a c, e = .returned (.slice a out.length c) ∧ Pops now L out L' ∧ RPopTo w b F w' out L' a c := by
  have HP0 : Hid (RPopTo w b F (w.alloc (.cells #[] 3)) [] L (some ⟨w.heap.size, 0, none⟩) 0 ∧ PopsOn now L [] L ∧ GoodW L) := hd (by
    have hb := below_al w (.cells #[] 3)
    have hr := row_new (size := 1) (n := 0) (heap_alloc_new w (.cells #[] 3)) (by simp) (Nat.zero_le _)
    refine ⟨⟨by simpa [idC, iC] using hr, (fun k hk => by cases hk; exact Nat.le_refl _), Mod.of_below _ hb, ⟨F, h.below hb, (fun k hk => Or.inl hk), (fun k hk hf => ?_)⟩⟩, fun o L2 h => h, hG⟩
    have hk' : w.heap.size = k := Option.some.inj hk
    obtain ⟨_, _, _, _, h3⟩ := h
    have := h3 _ hf
    omega)
  clear h hG
  obtain ⟨nL, hnL⟩ : ∃ n, Hid (L.length = n) := ⟨_, rfl⟩
  rw [hnL.out] at hL
  go_enter Try.func11, Try.ntmps11
  go_wp2_with fail
  go_loopg [5, 6] nL (fun k v5 v6 wr => ∃ n a c, v5 = .slice a n c ∧ k + n ≤ nL ∧ Hid (∃ out L1, out.length = n ∧ L1.length = k ∧ RPopTo w b F wr out L1 a c ∧ PopsOn now L out L1 ∧ GoodW L1))
  case atStart => exact ⟨0, _, 0, rfl, by omega, hd ⟨[], L, rfl, hnL.out, HP0.out⟩⟩
  case round =>
    obtain ⟨n, a, c, rfl, hkn, HR⟩ := hrel
    clear HP0
    obtain ⟨out, L1, ho, hl1, hP, hPs, hG1⟩ := HR.out
    obtain ⟨F1, ⟨a1, c1, hW, hF, hF9⟩, hF1, hF2⟩ := hP.wh
    have k1 := hW.c0
    rw [hl1] at k1
    by_cases h0 : gk = 0
    · have hno : L1 = [] := List.eq_nil_of_length_eq_zero (by rw [hl1]; exact h0)
      have HE : Hid (∃ out L' a' c', Ending.returned (.slice a n c) = .returned (.slice a' out.length c') ∧ Pops now L out L' ∧ RPopTo w b F wr out L' a' c') := hd ⟨out, L1, a, c, by rw [ho], by have := hPs [] L1 (by rw [hno]; exact Pops.none); rwa [List.append_nil] at this, hP⟩
      rw [h0] at k1
      clear hW hP hPs hl1 ho HR hG1 hno
      go_wp2_with fail
      go_ret
      exact HE.out
    · have hpos : 0 < gk := by omega
      have hpos' : (0 : Int) < (gk : Int) := by omega
      have hf := fun W (hb : Below wr.heap.size wr W) => first_any (hW.below hb) (by rw [hl1]; exact hpos) (by omega)
      have bz0 : Below wr.heap.size wr wr.drew := (Below.refl _ wr).drew
      have bz1 : Below wr.heap.size wr (wr.alloc (.cells #[.int .i64 0, .int .i64 0] 61)).drew := (below_al wr _).drew
      have HW := hd hW
      have HP := hd hP
      have HPs := hd hPs
      have HG1 := hd hG1
      have HL1 := hd hl1
      have HO := hd ho
      have hbl := hW.blt
      clear hW hP hPs hl1 ho HR h0 hG1
      go_upto_region 3 with fail
      go_cut [6] (fun v6 wy => ∃ (gx : Nat) (t1 t2 : Int), v6 = .pointer (some ⟨gx, 0, none⟩) ∧ wy.cell? ⟨gx, 0, none⟩ = some (.int .i64 t2) ∧ wy.cell? ⟨gx, 1, none⟩ = some (.int .i64 t1) ∧ Hid (IsMin L1 (t1, t2) ∧ Below wr.heap.size wr wy ∧ wr.heap.size ≤ gx))
      case first =>
        go_region_with (go_at_call 24; first
          | (refine (hf _ bz0).mono ?_; rintro e1 w1 ⟨k, rfl, hk, hm, b1⟩
             replace b1 := Below.trans bz0 (by exact b1)
             have y0 : w1.cell? ⟨b, 0, none⟩ = some (.slice a1 gk c1) := (b1.cell (p := ⟨b, 0, none⟩) hbl).trans k1
             obtain ⟨g, rfl, x0, x1⟩ := (HW.out.below b1).one k hk
             rw [HL1.out] at hk
             have hk' : (k : Int) < (gk : Int) := by omega
             have hgl : g < w1.heap.size := World.block_lt_of_cell? w1 _ x0
             have xa : ∀ ob, (w1.alloc ob).cell? ⟨g, k * 2, none⟩ = some (.int .i64 (tAt L1 k).2) := fun ob => ((below_al w1 ob).cell (p := ⟨g, k * 2, none⟩) hgl).trans x0
             have xb : ∀ ob, (w1.alloc ob).cell? ⟨g, k * 2 + 1, none⟩ = some (.int .i64 (tAt L1 k).1) := fun ob => ((below_al w1 ob).cell (p := ⟨g, k * 2 + 1, none⟩) hgl).trans x1
             have xc : ∀ ob, (w1.alloc ob).cell? ⟨b, 0, none⟩ = some (.slice (some ⟨g, 0, none⟩) gk c1) := fun ob => ((below_al w1 ob).cell (p := ⟨b, 0, none⟩) (World.block_lt_of_cell? w1 _ y0)).trans y0
             have HM := hd hm
             have HB1 := hd b1
             clear hm b1)
          | (refine (hf _ bz1).mono ?_; rintro e1 w1 ⟨k, rfl, hk, hm, b1⟩
             have v0 : w1.cell? ⟨wr.heap.size, 0, none⟩ = some (.int .i64 0) := (b1.cell (p := ⟨wr.heap.size, 0, none⟩) (by show wr.heap.size < (wr.alloc _).heap.size; simp)).trans (by show (wr.alloc _).cell? _ = _; simp)
             have v1 : w1.cell? ⟨wr.heap.size, 1, none⟩ = some (.int .i64 0) := (b1.cell (p := ⟨wr.heap.size, 1, none⟩) (by show wr.heap.size < (wr.alloc _).heap.size; simp)).trans (by show (wr.alloc _).cell? _ = _; simp)
             have u0 : w1.frozen? ⟨wr.heap.size, 0, none⟩ = false := (b1.frozen (p := ⟨wr.heap.size, 0, none⟩) (by show wr.heap.size < (wr.alloc _).heap.size; simp)).trans (by show (wr.alloc _).frozen? _ = _; simp)
             have u1 : w1.frozen? ⟨wr.heap.size, 1, none⟩ = false := (b1.frozen (p := ⟨wr.heap.size, 1, none⟩) (by show wr.heap.size < (wr.alloc _).heap.size; simp)).trans (by show (wr.alloc _).frozen? _ = _; simp)
             replace b1 := Below.trans bz1 (Below.mono b1 bz1.size)
             have y0 : w1.cell? ⟨b, 0, none⟩ = some (.slice a1 gk c1) := (b1.cell (p := ⟨b, 0, none⟩) hbl).trans k1
             obtain ⟨g, rfl, x0, x1⟩ := (HW.out.below b1).one k hk
             rw [HL1.out] at hk
             have hk' : (k : Int) < (gk : Int) := by omega
             have hgl : g < w1.heap.size := World.block_lt_of_cell? w1 _ x0
             have xa : ∀ ob, (w1.alloc ob).cell? ⟨g, k * 2, none⟩ = some (.int .i64 (tAt L1 k).2) := fun ob => ((below_al w1 ob).cell (p := ⟨g, k * 2, none⟩) hgl).trans x0
             have xb : ∀ ob, (w1.alloc ob).cell? ⟨g, k * 2 + 1, none⟩ = some (.int .i64 (tAt L1 k).1) := fun ob => ((below_al w1 ob).cell (p := ⟨g, k * 2 + 1, none⟩) hgl).trans x1
             have xc : ∀ ob, (w1.alloc ob).cell? ⟨b, 0, none⟩ = some (.slice (some ⟨g, 0, none⟩) gk c1) := fun ob => ((below_al w1 ob).cell (p := ⟨b, 0, none⟩) (World.block_lt_of_cell? w1 _ y0)).trans y0
             have HM := hd hm
             have HB1 := hd b1
             clear hm b1))
        all_goals go_wp2_with fail
        all_goals go_meet
        all_goals first
          | (case rel => exact ⟨_, (tAt L1 k).1, (tAt L1 k).2, rfl, by simp, by simp, hd ⟨HM.out, HB1.out.alloc HB1.out.size _, HB1.out.size⟩⟩)
          | (case rel => exact ⟨_, (tAt L1 k).1, (tAt L1 k).2, rfl, (two_set v0 v1 _ _).1, (two_set v0 v1 _ _).2, hd ⟨HM.out, (HB1.out.setCell (p := ⟨wr.heap.size, 0, none⟩) (Nat.le_refl _) _).setCell (p := ⟨wr.heap.size, 1, none⟩) (Nat.le_refl _) _, Nat.le_refl _⟩⟩)
      case rest =>
        obtain ⟨gx, t1, t2, rfl, x0, x1, HX⟩ := hcut
        have hWc := HW.out.below HX.out.2.1
        have HBX := hd HX.out.2.1
        clear hf bz0 bz1 k1
        by_cases hdue : t1 ≤ now
        · have hdd : decide (now < t1) = false := by simpa using hdue
          have hnm : n < maxLen := by unfold maxLen; omega
          have hrw := HP.out.row.below HBX.out
          rw [HO.out] at hrw
          obtain ⟨a', c', w2, hap, R2, M2, B2⟩ := push_any (T := 35) (e := 3) (z := .int .i64 0) (size := 1) (bytes := 8) Try.underlying35 infoN rfl hrw hnm (by omega) [.int .i64 t2] rfl (by simp [Value.oneCell'])
          have hdis : ∀ k, rfp b a1 k → ¬ blk a = some k := fun k hk e => hF2 k e (hF k hk)
          have hgx : ¬ blk a = some gx := fun e => by
            have := HP.out.row.lt gx e
            have := HX.out.2.2
            omega
          have hgl : gx < wc.heap.size := World.block_lt_of_cell? wc _ x0
          have y0 : w2.cell? ⟨gx, 0, none⟩ = some (.int .i64 t2) := (M2.cell (p := ⟨gx, 0, none⟩) hgl hgx).trans x0
          have hW2 : Rf w2 b (rfp b a1) L1 := ⟨a1, c1, hWc.mod M2 hdis, fun _ h => h, (hWc.mod M2 hdis).lt⟩
          have hcl := rclear_any hW2 HG1.out (by rw [HL1.out]; omega) t2
          have HE : Hid (∀ w4 : World, RfOut w2 b (rfp b a1) (clr t2 L1) w4 → ∃ out' L1', out'.length = n + 1 ∧ L1'.length = gk - 1 ∧ RPopTo w b F w4 out' L1' a' c' ∧ PopsOn now L out' L1' ∧ GoodW L1') := hd (fun w4 ⟨hm4, F4, hR4, hF4⟩ => by
            have hmin := HX.out.1
            have hwl : ∀ k, rfp b a1 k → F k ∨ w.heap.size ≤ k := fun k hk => hF1 k (hF k hk)
            have hm2 : Mod F w w2 := (HP.out.mod.after HBX.out).trans M2 (fun k hk => .inr (HP.out.new k hk))
            have hmF : Mod F w w4 := hm2.trans hm4 hwl
            have hane : ∀ k, blk a' = some k → ¬ rfp b a1 k := fun k hk hw => by
              rcases B2 k hk with h | h
              · exact hdis k hw h
              · have h3 := hF9 k (hF k hw)
                have h4 := HBX.out.size
                omega
            have hcl1 := clr_len HG1.out (isSet_iff.2 ⟨_, hmin.1, rfl⟩)
            have hgkl := HL1.out
            refine ⟨out ++ [(t1, t2)], clr t2 L1, by simp [HO.out], by simp only at hcl1; omega, ⟨?_, fun k hk => ?_, hmF, F4, hR4, fun k hk => ?_, fun k hk hw => ?_⟩, fun o L2 ho2 => ?_, HG1.out.clr t2⟩
            · rw [idC_app]
              have : (out ++ [(t1, t2)]).length = n + 1 := by simp [HO.out]
              rw [this]
              exact R2.mod hm4 hane
            · rcases B2 k hk with h | h
              · exact HP.out.new k h
              · exact Nat.le_trans HP.out.mod.size (Nat.le_trans HBX.out.size h)
            · rcases hF4 k hk with h | h
              · exact hwl k h
              · exact .inr (Nat.le_trans hm2.size h)
            · rcases hF4 k hw with h | h
              · exact hane k hk h
              · have := R2.lt k hk; omega
            · rw [List.append_assoc]
              exact HPs.out _ _ (Pops.one hmin hdue ho2))
          replace hap := hd hap
          clear hWc R2 M2 B2 hdis hgx hgl hW2 hrw hdue
          go_wp2_with (first
            | (at_builtin; refine wpList_append_run rfl _ _ _ rfl _ _ _ _ rfl rfl hap.out ?_)
            | (go_at_call 18; refine hcl.mono ?_; rintro e4 w4 ⟨rfl, h4⟩))
          go_roundg (gk - 1)
          case measure => omega
          case rel => exact ⟨n + 1, a', c', rfl, by omega, hd (HE.out _ h4)⟩
        · have hdd : now < t1 := by omega
          have HE : Hid (∃ out L' a' c', Ending.returned (.slice a n c) = .returned (.slice a' out.length c') ∧ Pops now L out L' ∧ RPopTo w b F wc out L' a' c') := hd ⟨out, L1, a, c, by rw [HO.out], by have := HPs.out [] L1 (Pops.late HX.out.1 hdd); rwa [List.append_nil] at this, ⟨HP.out.row.below HBX.out, HP.out.new, HP.out.mod.after HBX.out, ⟨F1, Rf.below ⟨a1, c1, HW.out, hF, hF9⟩ HBX.out, hF1, hF2⟩⟩⟩
          clear hWc hdue
          go_wp2_with fail
          go_ret
          exact HE.out
end Go.Proofs.Ytdpbkoohhnpjmaa
