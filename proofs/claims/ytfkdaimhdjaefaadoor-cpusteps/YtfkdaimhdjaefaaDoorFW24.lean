/- The document's whole numbers of any size: low. -/
import Derived.Test.YtfkdaimhdjaefaaDoorFW23
import Derived.Deep.RegionWith
namespace Go.Proofs.YtfkdaimhdjaefaaDoor.Flt
open Go.RowKit

theorem st_start (w : World) : St w.heap.size ((((w.alloc (.cells #[] 96)).alloc (.cells #[.slice (some ⟨w.heap.size, 0, none⟩) 0 0] 88)).alloc (.cells #[] 96)).alloc (.cells #[.slice (some ⟨w.heap.size + 1 + 1, 0, none⟩) 0 0] 88))
    (w.heap.size + 1) w.heap.size 0 [] (w.heap.size + 1 + 1 + 1) (w.heap.size + 1 + 1) 0 [] := by
  have o1 : ∀ W : World, (W.alloc (.cells #[] 96)).ownsRow w.heap.size 96 1 (.slice (some ⟨W.heap.size, 0, none⟩) 0 0) 0 (u32s []) ∨ ¬ w.heap.size ≤ W.heap.size := fun W => by
    by_cases h : w.heap.size ≤ W.heap.size
    · left
      exact ⟨by simp [u32s], .inr ⟨W.heap.size, 0, #[], rfl, h, heap_alloc_new W _, by simp, by unfold maxLen; omega, by simp, by simp [u32s]⟩⟩
    · exact .inr h
  refine ⟨⟨by simp [go_sem], by simp [go_sem], ?_, by omega⟩, ⟨by simp [go_sem], by simp [go_sem], ?_, by omega⟩, by omega, by omega, by omega, by omega, by omega, by omega⟩
  · rcases o1 w with h | h
    · exact ((h.alloc _).alloc _).alloc _
    · omega
  · rcases o1 ((w.alloc (.cells #[] 96)).alloc (.cells #[.slice (some ⟨w.heap.size, 0, none⟩) 0 0] 88)) with h | h
    · simp only [World.size_alloc] at h
      exact h.alloc _
    · simp at h; omega

set_option maxRecDepth 100000 in
set_option maxHeartbeats 2000000 in
theorem low_any (v : Value) (N n : Nat) (hn : n ≤ 3000) (hN : N < BB ^ 300) (w : World) (h : Num w v N) :
    Calls Tryd.prog 87 #[v, .int .i64 n] w fun e w' => ∃ v1 v2, e = .returned (.tuple #[v1, v2]) ∧ Num w' v1 (N % 2 ^ n) ∧ Num w' v2 (N / 2 ^ n) ∧ Below w.heap.size w w' := by
  obtain ⟨i0, hi, hz0, hz1, hz2⟩ := info_parts info70
  obtain ⟨l, ⟨ao, cap, rfl, h1, h2, h3, h4⟩, hno, hva⟩ := h
  have hl := norm_len l hno 300 (by rw [hva]; exact hN)
  obtain ⟨p, hp⟩ : ∃ a, l.length = a := ⟨_, rfl⟩
  rw [hp] at h1 hl ⊢
  have H4 : Hid (At w ao l) := Lib.hid h4
  have HP := Lib.hid hp
  have HD := Lib.hid h3
  have HV := Lib.hid hva
  have hNp : N < 2 ^ (32 * p) := by rw [← hva, ← hp, ← BB_two]; exact val_lt l h3
  have HNP := Lib.hid hNp
  clear hp h3 hva h4 hno hNp
  go_enter Tryd.func87, Tryd.ntmps87
  go_wp2_with fail
  have hst := st_start w
  have hb0 : Below w.heap.size w ((((w.alloc (.cells #[] 96)).alloc (.cells #[.slice (some ⟨w.heap.size, 0, none⟩) 0 0] 88)).alloc (.cells #[] 96)).alloc (.cells #[.slice (some ⟨w.heap.size + 1 + 1, 0, none⟩) 0 0] 88)) :=
    ((((Below.refl _ w).alloc (Nat.le_refl _) _).alloc (by simp) _).alloc (by simp; omega) _).alloc (by simp; omega) _
  obtain ⟨R, hR⟩ : ∃ R, w.heap.size + 1 = R := ⟨_, rfl⟩
  obtain ⟨O, hO⟩ : ∃ O, w.heap.size + 1 + 1 + 1 = O := ⟨_, rfl⟩
  go_loopw [8] (fun x wr => ∃ (i gR cR gO cO : Nat) (LR LO : List Nat), i ≤ 32 * p ∧ x = .int .i64 i ∧ St w.heap.size wr (w.heap.size + 1) gR cR LR (w.heap.size + 1 + 1 + 1) gO cO LO ∧ Hid (Bits LR (min i n) N ∧ Bits LO (i - n) (N / 2 ^ n)) ∧ Below w.heap.size w wr) (fun x _ => 32 * p - (intOf x).toNat)
  case atStart => exact ⟨0, _, _, _, _, [], [], by omega, rfl, hst, Lib.hid ⟨by rw [Nat.zero_min]; exact bits_zero N, by rw [Nat.zero_sub]; exact bits_zero _⟩, hb0⟩
  case round =>
    obtain ⟨i, gR, cR, gO, cO, LR, LO, hi2, rfl, st, HI, hb⟩ := hrel
    rename World => wr
    have hsz := hb.size
    have hLR : LR.length ≤ 400 := by have := HI.out.1.1; unfold words at this; omega
    have hLO : LO.length ≤ 400 := by have := HI.out.2.1; unfold words at this; omega
    clear hst hb0 hR hO R O
    by_cases hlt : i < 32 * p
    · obtain ⟨q, hq⟩ : ∃ q, i / 32 = q := ⟨_, rfl⟩
      obtain ⟨r, hr⟩ : ∃ r, i % 32 = r := ⟨_, rfl⟩
      have eq1 : (i : Int).tdiv 32 = (q : Int) := by rw [← hq]; exact Int.ofNat_tdiv i 32
      have er1 : (i : Int).tmod 32 = (r : Int) := by rw [← hr]; exact Int.ofNat_tmod i 32
      have hqp : q < p := by omega
      have hr2 : r < 32 := by omega
      obtain ⟨b, o, rfl, c1⟩ := H4.out (by have := HP.out; omega)
      obtain ⟨x, hx⟩ : ∃ x, x = l.getD q 0 := ⟨_, rfl⟩
      have k1 : wr.cell? ⟨b, o + q, none⟩ = some (.int .u32 (x : Nat)) := by
        have h := c1 q (by have := HP.out; omega)
        rw [hx]
        exact (hb.cell (World.block_lt_of_cell? w _ h)).trans h
      have hxB : x < 4294967296 := by rw [hx]; exact dig_getD l HD.out q
      obtain ⟨y, hy⟩ : ∃ y, x / 2 ^ r = y := ⟨_, rfl⟩
      obtain ⟨z, hz⟩ : ∃ z, y % 2 = z := ⟨_, rfl⟩
      have hzN : z = N / 2 ^ i % 2 := by
        rw [← HV.out, ← digit_bit l i (by have := HP.out; omega) HD.out, hq, hr, ← hx, hy, hz]
      have hqi : (q : Int) < (p : Int) := by omega
      have hli : (i : Int) < 32 * (p : Int) := by omega
      have hzz : z < 2 := by omega
      have ey : (x : Int) / 2 ^ r = (y : Int) := by
        rw [← hy]; simp
      have hyB : y < 4294967296 := by
        rw [← hy]; exact Nat.lt_of_le_of_lt (Nat.div_le_self _ _) hxB
      have ez : bits .and .u32 (y : Int) 1 = (z : Int) := by
        have h := u32_and_nat y 1 hyB (by omega)
        rw [Nat.and_one_is_mod, hz] at h
        exact h
      have HQ := Lib.hid (And.intro hq hr)
      have HZ := Lib.hid hzN
      clear c1 hx hy hz hzN hq hr
      by_cases hin : i < n
      · have hin' : decide ((i : Int) ≥ (n : Int)) = false := by simp; omega
        by_cases hr0 : r = 0
        · have hrb : ((r : Int) == 0) = true := by simp [hr0]
          clear hr0
          have kc := st.vq.cell
          have kf := st.vq.soft
          obtain ⟨m1, hm1⟩ : ∃ m, LR.length = m := ⟨_, rfl⟩
          rw [hm1] at kc
          have hqm : q = m1 := by
            have h1 := HI.out.1.1
            have h2 := HQ.out
            have h3 : r = 0 := by simpa using hrb
            rw [Nat.min_eq_left (by omega), (words_mul i (by omega)).1] at h1
            omega
          have HM := Lib.hid (And.intro hm1 hqm)
          have hown0 := own_len hm1 st.vq.own
          rw [hm1] at hown0 hLR
          have hq1 : (q : Int) < (m1 : Int) + 1 := by omega
          clear hm1 hqm
          go_wp2_with (at_builtin; refine wpList_append_lies _ rfl _ _ 88 rfl w.heap.size 96 i0 (.int .u32 0) 1 4 Tryd.underlying88 hi hz0 hz1 hz2 rfl (by decide) _ _ _ rfl (hown0.alloc _) ⟨wr.heap.size, 0, none⟩ 1 1 [.int .u32 0] rfl rfl (cell_one_new _ _ _) (by simp [Value.oneCell']) (by decide) (by unfold maxLen; omega) (by omega) (by simp; omega) (wr.heap.size + 1) (by simp) ?_; intro g1 c1 w1 hown1 hgrow1 hat1 hlt1; obtain ⟨kc1, kf1⟩ := St.pushed st hgrow1)
          have st2 := St.push st 0 (by rw [HM.out.1]; exact hown1) hgrow1 hat1
          rw [HM.out.1] at st2
          have hb1 : Below w.heap.size w w1 := (hb.alloc hsz _).grown hgrow1 (by simp; omega) (fun j hj => by cases hj; exact (st.vq.lt).2.2)
          have hb2 := hb1.setCell (p := ⟨w.heap.size + 1, 0, none⟩) (by show w.heap.size ≤ w.heap.size + 1; omega) (.slice (some ⟨g1, 0, none⟩) (m1 + 1) c1)
          obtain ⟨V, hV⟩ : ∃ V, w1.setCell ⟨w.heap.size + 1, 0, none⟩ (.slice (some ⟨g1, 0, none⟩) (m1 + 1) c1) = V := ⟨_, rfl⟩
          rw [hV] at st2 hb2 ⊢
          have kcV := st2.vq.cell
          obtain ⟨keV, kfV⟩ := st2.elem q (by rw [List.length_append, HM.out.1, HM.out.2]; simp)
          have hll : (LR ++ [0]).length = m1 + 1 := by rw [List.length_append, HM.out.1]; rfl
          rw [hll] at kcV
          have hX : (LR ++ [0]).getD q 0 = 0 := by
            rw [HM.out.2, ← HM.out.1]; simp [List.getD]
          rw [hX] at keV
          have hr3 : r = 0 := by simpa using hrb
          have hbits : Bits ((LR ++ [0]).set q z) (min (i + 1) n) N := by
            have h0 := HI.out.1
            rw [Nat.min_eq_left (by omega)] at h0
            have h1 := bits_push LR i N z h0 (by have := HQ.out; omega) HZ.out
            rw [Nat.min_eq_left (by omega)]
            have e : (LR ++ [0]).set q z = LR ++ [z] := by
              rw [HM.out.2, ← HM.out.1, List.set_append_right _ _ (Nat.le_refl _)]; simp
            rw [e]; exact h1
          have HB := Lib.hid hbits
          have e4 : (z : Int) * 2 ^ r % 4294967296 = (z : Int) := by rw [hr3]; simp; omega
          have e5 : bits .or .u32 0 (z : Int) = (z : Int) := by
            have h := u32_or_nat 0 z (by omega) (by omega)
            rw [Nat.zero_or] at h
            exact h
          have st3 := (st2.set q z).drew
          have hb3 := (hb2.setCell (p := ⟨g1, q, none⟩) (st2.vq.lt).2.2 (.int .u32 (z : Int))).drew
          clear hV st2 hb2 hb1 hown1 hgrow1 hat1 hlt1 kc1 kf1 st hown0 hX hll hr3 hbits kc kf
          go_region
          go_wp2_with fail
          go_roundw
          case rel => exact ⟨i + 1, g1, c1, gO, cO, (LR ++ [0]).set q z, LO, by omega, by go_num, st3, Lib.hid ⟨HB.out, by have h := HI.out.2; rw [show i - n = i + 1 - n by omega] at h; exact h⟩, hb3⟩
          case measure => simp [intOf]; omega
        · have hrb : ((r : Int) == 0) = false := by simp [hr0]
          clear hr0
          have kc := st.vq.cell
          have kf := st.vq.soft
          obtain ⟨m1, hm1⟩ : ∃ m, LR.length = m := ⟨_, rfl⟩
          rw [hm1] at kc
          have hqm : m1 = q + 1 := by
            have h1 := HI.out.1.1
            have h2 := HQ.out
            have h3 : r ≠ 0 := by simpa using hrb
            rw [Nat.min_eq_left (by omega), (words_not i (by omega)).1] at h1
            omega
          have HM := Lib.hid (And.intro hm1 hqm)
          have hq1 : (q : Int) < (m1 : Int) := by omega
          obtain ⟨keV, kfV⟩ := st.elem q (by omega)
          obtain ⟨X, hX⟩ : ∃ X, X = LR.getD q 0 := ⟨_, rfl⟩
          rw [← hX] at keV
          have hr3 : r ≠ 0 := by simpa using hrb
          have hXr : X < 2 ^ r := by
            have h0 := HI.out.1
            rw [Nat.min_eq_left (by omega)] at h0
            have h1 := top_small LR i N h0 (by have := HQ.out; omega)
            rw [HQ.out.1, HQ.out.2, ← hX] at h1
            exact h1
          have hp31 : 2 ^ r ≤ 2 ^ 31 := Nat.pow_le_pow_right (by decide) (by omega)
          obtain ⟨Z, hZ⟩ : ∃ Z, Z = z * 2 ^ r := ⟨_, rfl⟩
          have hZB : Z ≤ 2 ^ 31 := by
            rw [hZ]
            have : z * 2 ^ r ≤ 1 * 2 ^ r := Nat.mul_le_mul_right _ (by omega)
            omega
          obtain ⟨D, hD⟩ : ∃ D, D = X + Z := ⟨_, rfl⟩
          have e4 : (z : Int) * 2 ^ r % 4294967296 = (Z : Int) := by
            have : (z : Int) * 2 ^ r = (Z : Int) := by rw [hZ]; simp
            rw [this]; omega
          have e5 : bits .or .u32 (X : Int) (Z : Int) = (D : Int) := by
            have h := u32_or_nat X Z (by omega) (by omega)
            rw [hZ, or_bit32 X z r hXr, ← hZ, ← hD] at h
            exact h
          have hbits : Bits (LR.set q D) (min (i + 1) n) N := by
            have h0 := HI.out.1
            rw [Nat.min_eq_left (by omega)] at h0
            have h1 := bits_set LR i N z h0 (by have := HQ.out; omega) HZ.out
            rw [HQ.out.1, HQ.out.2, ← hX, ← hZ, ← hD] at h1
            rw [Nat.min_eq_left (by omega)]
            exact h1
          have HB := Lib.hid hbits
          have st3 := (st.set q D).drew
          have hb3 := (hb.setCell (p := ⟨gR, q, none⟩) (st.vq.lt).2.2 (.int .u32 (D : Int))).drew
          clear hm1 hqm hX hZ hD hr3 hXr hbits st
          go_wp2_with fail
          go_region
          go_wp2_with fail
          go_roundw
          case rel => exact ⟨i + 1, gR, cR, gO, cO, LR.set q D, LO, by omega, by go_num, st3, Lib.hid ⟨HB.out, by have h := HI.out.2; rw [show i - n = i + 1 - n by omega] at h; exact h⟩, hb3⟩
          case measure => simp [intOf]; omega
      · obtain ⟨K, hK⟩ : ∃ K, K = i - n := ⟨_, rfl⟩
        have eK : (i : Int) - (n : Int) = (K : Int) := by omega
        have hin' : (i : Int) ≥ (n : Int) := by omega
        obtain ⟨kq, hkq⟩ : ∃ q, K / 32 = q := ⟨_, rfl⟩
        obtain ⟨kr, hkr⟩ : ∃ r, K % 32 = r := ⟨_, rfl⟩
        have eq2 : (K : Int).tdiv 32 = (kq : Int) := by rw [← hkq]; exact Int.ofNat_tdiv K 32
        have er2 : (K : Int).tmod 32 = (kr : Int) := by rw [← hkr]; exact Int.ofNat_tmod K 32
        have hkr2 : kr < 32 := by omega
        have hkq2 : kq ≤ 400 := by omega
        have hzO : z = N / 2 ^ n / 2 ^ K % 2 := by
          rw [Nat.div_div_eq_div_mul, ← pow_add', show n + K = i by omega]; exact HZ.out
        have HK := Lib.hid (show i = n + K by omega)
        have HKQ := Lib.hid (And.intro hkq hkr)
        have HZO := Lib.hid hzO
        have hKb : K ≤ 32 * p := by omega
        clear hK hkq hkr hzO
        by_cases hr0 : kr = 0
        · have hrb : ((kr : Int) == 0) = true := by simp [hr0]
          clear hr0
          have st := st.swap
          have kc := st.vq.cell
          have kf := st.vq.soft
          obtain ⟨m1, hm1⟩ : ∃ m, LO.length = m := ⟨_, rfl⟩
          rw [hm1] at kc
          have hqm : kq = m1 := by
            have h1 := HI.out.2.1
            have h2 := HKQ.out
            have h3 : kr = 0 := by simpa using hrb
            rw [show i - n = K by have := HK.out; omega, (words_mul K (by omega)).1] at h1
            omega
          have HM := Lib.hid (And.intro hm1 hqm)
          have hown0 := own_len hm1 st.vq.own
          rw [hm1] at hown0 hLO
          have hq1 : (kq : Int) < (m1 : Int) + 1 := by omega
          clear hm1 hqm
          go_wp2_with (at_builtin; refine wpList_append_lies _ rfl _ _ 88 rfl w.heap.size 96 i0 (.int .u32 0) 1 4 Tryd.underlying88 hi hz0 hz1 hz2 rfl (by decide) _ _ _ rfl (hown0.alloc _) ⟨wr.heap.size, 0, none⟩ 1 1 [.int .u32 0] rfl rfl (cell_one_new _ _ _) (by simp [Value.oneCell']) (by decide) (by unfold maxLen; omega) (by omega) (by simp; omega) (wr.heap.size + 1) (by simp) ?_; intro g1 c1 w1 hown1 hgrow1 hat1 hlt1; obtain ⟨kc1, kf1⟩ := St.pushed st hgrow1)
          have st2 := St.push st 0 (by rw [HM.out.1]; exact hown1) hgrow1 hat1
          rw [HM.out.1] at st2
          have hb1 : Below w.heap.size w w1 := (hb.alloc hsz _).grown hgrow1 (by simp; omega) (fun j hj => by cases hj; exact (st.vq.lt).2.2)
          have hb2 := hb1.setCell (p := ⟨w.heap.size + 1 + 1 + 1, 0, none⟩) (by show w.heap.size ≤ w.heap.size + 1 + 1 + 1; omega) (.slice (some ⟨g1, 0, none⟩) (m1 + 1) c1)
          obtain ⟨V, hV⟩ : ∃ V, w1.setCell ⟨w.heap.size + 1 + 1 + 1, 0, none⟩ (.slice (some ⟨g1, 0, none⟩) (m1 + 1) c1) = V := ⟨_, rfl⟩
          rw [hV] at st2 hb2 ⊢
          have kcV := st2.vq.cell
          obtain ⟨keV, kfV⟩ := st2.elem kq (by rw [List.length_append, HM.out.1, HM.out.2]; simp)
          have hll : (LO ++ [0]).length = m1 + 1 := by rw [List.length_append, HM.out.1]; rfl
          rw [hll] at kcV
          have hX : (LO ++ [0]).getD kq 0 = 0 := by
            rw [HM.out.2, ← HM.out.1]; simp [List.getD]
          rw [hX] at keV
          have hr3 : kr = 0 := by simpa using hrb
          have hbits : Bits ((LO ++ [0]).set kq z) (i + 1 - n) (N / 2 ^ n) := by
            have h0 := HI.out.2
            rw [show i - n = K by have := HK.out; omega] at h0
            have h1 := bits_push LO K (N / 2 ^ n) z h0 (by have := HKQ.out; omega) HZO.out
            rw [show i + 1 - n = K + 1 by have := HK.out; omega]
            have e : (LO ++ [0]).set kq z = LO ++ [z] := by
              rw [HM.out.2, ← HM.out.1, List.set_append_right _ _ (Nat.le_refl _)]; simp
            rw [e]; exact h1
          have HB := Lib.hid hbits
          have e4 : (z : Int) * 2 ^ kr % 4294967296 = (z : Int) := by rw [hr3]; simp; omega
          have e5 : bits .or .u32 0 (z : Int) = (z : Int) := by
            have h := u32_or_nat 0 z (by omega) (by omega)
            rw [Nat.zero_or] at h
            exact h
          have st3 := (st2.set kq z).drew
          have hb3 := (hb2.setCell (p := ⟨g1, kq, none⟩) (st2.vq.lt).2.2 (.int .u32 (z : Int))).drew
          clear hV st2 hb2 hb1 hown1 hgrow1 hat1 hlt1 kc1 kf1 st hown0 hX hll hr3 hbits kc kf
          go_region
          go_wp2_with fail
          go_roundw
          case rel => exact ⟨i + 1, gR, cR, g1, c1, LR, (LO ++ [0]).set kq z, by omega, by go_num, st3.swap, Lib.hid ⟨by have h := HI.out.1; rw [Nat.min_eq_right (show n ≤ i by omega)] at h; rw [Nat.min_eq_right (show n ≤ i + 1 by omega)]; exact h, HB.out⟩, hb3⟩
          case measure => simp [intOf]; omega
        · have hrb : ((kr : Int) == 0) = false := by simp [hr0]
          clear hr0
          have st := st.swap
          have kc := st.vq.cell
          have kf := st.vq.soft
          obtain ⟨m1, hm1⟩ : ∃ m, LO.length = m := ⟨_, rfl⟩
          rw [hm1] at kc
          have hqm : m1 = kq + 1 := by
            have h1 := HI.out.2.1
            have h2 := HKQ.out
            have h3 : kr ≠ 0 := by simpa using hrb
            rw [show i - n = K by have := HK.out; omega, (words_not K (by omega)).1] at h1
            omega
          have HM := Lib.hid (And.intro hm1 hqm)
          have hq1 : (kq : Int) < (m1 : Int) := by omega
          obtain ⟨keV, kfV⟩ := st.elem kq (by omega)
          obtain ⟨X, hX⟩ : ∃ X, X = LO.getD kq 0 := ⟨_, rfl⟩
          rw [← hX] at keV
          have hr3 : kr ≠ 0 := by simpa using hrb
          have hXr : X < 2 ^ kr := by
            have h0 := HI.out.2
            rw [show i - n = K by have := HK.out; omega] at h0
            have h1 := top_small LO K (N / 2 ^ n) h0 (by have := HKQ.out; omega)
            rw [HKQ.out.1, HKQ.out.2, ← hX] at h1
            exact h1
          have hp31 : 2 ^ kr ≤ 2 ^ 31 := Nat.pow_le_pow_right (by decide) (by omega)
          obtain ⟨Z, hZ⟩ : ∃ Z, Z = z * 2 ^ kr := ⟨_, rfl⟩
          have hZB : Z ≤ 2 ^ 31 := by
            rw [hZ]
            have : z * 2 ^ kr ≤ 1 * 2 ^ kr := Nat.mul_le_mul_right _ (by omega)
            omega
          obtain ⟨D, hD⟩ : ∃ D, D = X + Z := ⟨_, rfl⟩
          have e4 : (z : Int) * 2 ^ kr % 4294967296 = (Z : Int) := by
            have : (z : Int) * 2 ^ kr = (Z : Int) := by rw [hZ]; simp
            rw [this]; omega
          have e5 : bits .or .u32 (X : Int) (Z : Int) = (D : Int) := by
            have h := u32_or_nat X Z (by omega) (by omega)
            rw [hZ, or_bit32 X z kr hXr, ← hZ, ← hD] at h
            exact h
          have hbits : Bits (LO.set kq D) (i + 1 - n) (N / 2 ^ n) := by
            have h0 := HI.out.2
            rw [show i - n = K by have := HK.out; omega] at h0
            have h1 := bits_set LO K (N / 2 ^ n) z h0 (by have := HKQ.out; omega) HZO.out
            rw [HKQ.out.1, HKQ.out.2, ← hX, ← hZ, ← hD] at h1
            rw [show i + 1 - n = K + 1 by have := HK.out; omega]
            exact h1
          have HB := Lib.hid hbits
          have st3 := (st.set kq D).drew
          have hb3 := (hb.setCell (p := ⟨gO, kq, none⟩) (st.vq.lt).2.2 (.int .u32 (D : Int))).drew
          clear hm1 hqm hX hZ hD hr3 hXr hbits st
          go_wp2_with fail
          go_region
          go_wp2_with fail
          go_roundw
          case rel => exact ⟨i + 1, gR, cR, gO, cO, LR, LO.set kq D, by omega, by go_num, st3.swap, Lib.hid ⟨by have h := HI.out.1; rw [Nat.min_eq_right (show n ≤ i by omega)] at h; rw [Nat.min_eq_right (show n ≤ i + 1 by omega)]; exact h, HB.out⟩, hb3⟩
          case measure => simp [intOf]; omega
    · have hie : i = 32 * p := by omega
      have hlt' : decide ((i : Int) < 32 * (p : Int)) = false := by simp; omega
      have kR := st.vq.cell
      have kO := st.vs.cell
      have rR := row_own st.vq.own rfl HI.out.1.2.1
      have rO := row_own st.vs.own rfl HI.out.2.2.1
      have tR := trim_any _ LR (by omega) wr rR
      have tR' := trim_any _ LR (by omega) wr.drew rR
      have tO := trim_any _ LO (by omega) wr rO
      have tO' := trim_any _ LO (by omega) wr.drew rO
      have vR : val LR = N % 2 ^ n := by
        rw [HI.out.1.2.2]
        by_cases hc : i ≤ n
        · rw [Nat.min_eq_left hc, Nat.mod_eq_of_lt (by rw [hie]; exact HNP.out), Nat.mod_eq_of_lt]
          exact Nat.lt_of_lt_of_le HNP.out (Nat.pow_le_pow_right (by decide) (by omega))
        · rw [Nat.min_eq_right (by omega)]
      have vO : val LO = N / 2 ^ n := by
        rw [HI.out.2.2.2]
        by_cases hc : i ≤ n
        · have h0 : N / 2 ^ n = 0 := Nat.div_eq_of_lt (Nat.lt_of_lt_of_le HNP.out (Nat.pow_le_pow_right (by decide) (by omega)))
          rw [h0]; simp
        · apply Nat.mod_eq_of_lt
          rw [Nat.div_lt_iff_lt_mul (Nat.two_pow_pos n), ← pow_add', show i - n + n = 32 * p by omega]
          exact HNP.out
      have HVR := Lib.hid (And.intro vR vO)
      clear rR rO vR vO hie st
      go_wp2_with fail
      go_region_with (first | (go_at_call 84; first | (with_reducible refine tR'.mono ?_; rintro e w1 ⟨v1, l1, rfl, rfl, a1, a2, a3⟩) | (with_reducible refine tR.mono ?_; rintro e w1 ⟨v1, l1, rfl, rfl, a1, a2, a3⟩) | (with_reducible refine tO'.mono ?_; rintro e w1 ⟨v2, l2, rfl, rfl, d1, d2, d3⟩) | (with_reducible refine tO.mono ?_; rintro e w1 ⟨v2, l2, rfl, rfl, d1, d2, d3⟩)))
      all_goals
        go_wp2_with fail
        go_ret2
        refine ⟨v1, v2, rfl, ⟨l1, ?_, a3, by rw [a2]; exact HVR.out.1⟩, ⟨l2, ?_, d3, by rw [d2]; exact HVR.out.2⟩, hb.drew⟩
        · exact a1
        · exact d1
end Go.Proofs.YtfkdaimhdjaefaaDoor.Flt
