/- leftShift. -/
import Derived.Test.YtadlppllbebkdaaGreatDoorZDb
namespace Go.Proofs.YtadlppllbebkdaaGreatDoor
open Go.RowKit

/-- The digits so far, when a row is doubled k times, from the right. -/
structure LS (D P nd dl wd n : Nat) (g' : Nat → Nat) : Prop where
  car : n = (D % 10 ^ (nd + dl - wd)) * P / 10 ^ (nd + dl - wd)
  digs : ∀ i, wd ≤ i → i < nd + dl → i < 800 → 48 ≤ g' i ∧ g' i ≤ 57
  first : wd = 0 → g' 0 = 48 + D * P / 10 ^ (nd + dl - 1)

theorem LS.total {D P nd dl v n : Nat} {g' : Nat → Nat} (h : LS D P nd dl (v + 1) n g') (dg : Nat) (hd : D / 10 ^ (nd + dl - (v + 1)) % 10 = dg) (hv : v < nd + dl) :
    (n + dg * P) / 10 = (D % 10 ^ (nd + dl - v)) * P / 10 ^ (nd + dl - v) ∧ n + dg * P = (D % 10 ^ (nd + dl - v)) * P / 10 ^ (nd + dl - (v + 1)) := by
  have := carry_step (P := P) dg hd
  rw [← h.car, show nd + dl - (v + 1) + 1 = nd + dl - v by omega] at this
  exact this

theorem LS.step {D P nd dl v n : Nat} {g' : Nat → Nat} (h : LS D P nd dl (v + 1) n g') (hD : D < 10 ^ nd) (hDP : D * P < 10 ^ (nd + dl)) (dg : Nat) (hd : D / 10 ^ (nd + dl - (v + 1)) % 10 = dg) (hv : v < nd + dl) (hv8 : v < 800) :
    LS D P nd dl v ((n + dg * P) / 10) (put g' v (48 + (n + dg * P) % 10)) := by
  obtain ⟨t1, t2⟩ := h.total dg hd hv
  refine ⟨t1, ?_, ?_⟩
  · intro i h1 h2 h3
    by_cases e : i = v
    · subst e; rw [put_same]; omega
    · rw [put_ne g' _ e]; exact h.digs i (by omega) h2 h3
  · intro e
    subst e
    rw [put_same]
    have hD2 : D % 10 ^ (nd + dl - 0) = D := Nat.mod_eq_of_lt (Nat.lt_of_lt_of_le hD (Nat.pow_le_pow_right (by decide) (by omega)))
    rw [hD2, Nat.zero_add] at t2
    have : D * P / 10 ^ (nd + dl - 1) < 10 := by
      rw [Nat.div_lt_iff_lt_mul (Nat.pow_pos (by decide))]
      have e : 10 ^ (nd + dl) = 10 * 10 ^ (nd + dl - 1) := by
        rw [show nd + dl = nd + dl - 1 + 1 by omega, Nat.pow_succ, Nat.mul_comm]; congr 2
      omega
    rw [t2, Nat.mod_eq_of_lt this]
theorem LS.stepNo {D P nd dl v n : Nat} {g' : Nat → Nat} (h : LS D P nd dl (v + 1) n g') (dg : Nat) (hd : D / 10 ^ (nd + dl - (v + 1)) % 10 = dg) (hv : v < nd + dl) (hv8 : 800 ≤ v) :
    LS D P nd dl v ((n + dg * P) / 10) g' := by
  obtain ⟨t1, t2⟩ := h.total dg hd hv
  exact ⟨t1, fun i h1 h2 h3 => by omega, fun e => by omega⟩
theorem LS.carry_lt {D P nd dl wd n : Nat} {g' : Nat → Nat} (h : LS D P nd dl wd n g') (hP : 0 < P) : n < P := by
  rw [h.car]; exact YtadlppllbebkdaaGreatDoor.carry_lt hP

/-- Beyond the row's own digits: what is left. -/
theorem LS.beyond {D P nd dl wd n : Nat} {g' : Nat → Nat} (h : LS D P nd dl wd n g') (hD : D < 10 ^ nd) (hw : wd ≤ dl) : n = D * P / 10 ^ (nd + dl - wd) ∧ D / 10 ^ (nd + dl - wd) % 10 = 0 := by
  have hlt : D < 10 ^ (nd + dl - wd) := Nat.lt_of_lt_of_le hD (Nat.pow_le_pow_right (by decide) (by omega))
  refine ⟨?_, ?_⟩
  · have := h.car
    rw [Nat.mod_eq_of_lt hlt] at this
    exact this
  · rw [Nat.div_eq_of_lt hlt]
theorem LS.more {D P nd dl n : Nat} {g' : Nat → Nat} (h : LS D P nd dl 0 n g') (hD : D < 10 ^ nd) (hDP : D * P < 10 ^ (nd + dl)) : n = 0 := by
  rw [(h.beyond hD (Nat.zero_le _)).1, Nat.sub_zero]
  exact Nat.div_eq_of_lt hDP
theorem LS.done {D P nd dl wd : Nat} {g' : Nat → Nat} (h : LS D P nd dl wd 0 g') (hD : D < 10 ^ nd) (hw : wd ≤ dl) (hge : 10 ^ (nd + dl - 1) ≤ D * P) : wd = 0 := by
  rcases Nat.eq_zero_or_pos wd with e | e
  · exact e
  · have := (h.beyond hD hw).1
    have h2 : 10 ^ (nd + dl - wd) ≤ 10 ^ (nd + dl - 1) := Nat.pow_le_pow_right (by decide) (by omega)
    have h3 := Nat.div_pos (Nat.le_trans h2 hge) (Nat.pow_pos (by decide))
    omega

/-- The cheats in the world. -/
def Chz (w : World) : Prop := ∃ b o, w.cell? ⟨11, 0, none⟩ = some (.slice (some ⟨b, o, none⟩) 61 61) ∧ ∀ k x, Pinned.cheatRows[k]? = some x → w.cell? ⟨b, o + k * 2, none⟩ = some (.int .i64 (x.1 : Int)) ∧ w.cell? ⟨b, o + k * 2 + 1, none⟩ = some (.string ⟨x.2.toArray⟩)
theorem Chz.kept {w w' : World} (h : Chz w) (hB : ∀ a : Addr, (∃ v, w.cell? a = some v) → w'.cell? a = w.cell? a) : Chz w' := by
  obtain ⟨b, o, h1, h2⟩ := h
  exact ⟨b, o, (hB _ ⟨_, h1⟩).trans h1, fun k x hx => ⟨(hB _ ⟨_, (h2 k x hx).1⟩).trans (h2 k x hx).1, (hB _ ⟨_, (h2 k x hx).2⟩).trans (h2 k x hx).2⟩⟩

set_option maxRecDepth 100000 in
set_option maxHeartbeats 2000000 in
theorem left_any (B q nd k : Nat) (g : Nat → Nat) (dp : Int) (neg tr : Bool) (h1 : 1 ≤ nd) (h2 : nd ≤ 800) (hg : Digs g nd) (h0 : 49 ≤ g 0) (k1 : 1 ≤ k) (k2 : k ≤ 60) (hd1 : -1000000 ≤ dp) (hd2 : dp ≤ 1000000) (w : World) (C : Chz w) (D : Dr B q w g nd dp neg tr) :
    Calls Tryz.prog 138 #[.pointer (some ⟨q, 0, none⟩), .int .u64 k] w fun e w' => e = .returned (.tuple #[]) ∧ ∃ (g' : Nat → Nat) (nd' dl : Nat) (tr' : Bool), dl ≤ 61 ∧ (dl = 0 → g 0 < g' 0) ∧ 1 ≤ nd' ∧ nd' ≤ 800 ∧ Digs g' nd' ∧ 49 ≤ g' 0 ∧ Dr B q w' g' nd' (dp + dl) neg tr' ∧ Below B w w' := by
  obtain ⟨P, hP⟩ : ∃ P, Hid (2 ^ k = P) := ⟨_, Lib.hid rfl⟩
  have p1 : 2 ≤ P := by rw [← hP.out]; exact Nat.pow_le_pow_right (n := 2) (by decide) k1
  have p2 : P ≤ 1152921504606846976 := by rw [← hP.out]; exact Nat.pow_le_pow_right (n := 2) (by decide) k2
  obtain ⟨d, l, hrow, CH⟩ := cheat_at k1 k2
  obtain ⟨b, o, t1, t2⟩ := C
  obtain ⟨t3, t4⟩ := t2 k _ hrow
  clear t2 hrow
  simp only at t3 t4
  obtain ⟨s, hs⟩ : ∃ s : ByteArray, Hid (s = ⟨l.toArray⟩) := ⟨_, Lib.hid rfl⟩
  have sl : s.data.toList = l := by rw [hs.out]
  have ss : s.size = l.length := by rw [← size_list, sl]
  rw [← hs.out] at t4
  have hL := fun W (DW : Dr B q W g nd dp neg tr) => less_ans B q nd g dp neg tr h2 hg s (by rw [sl, ss]; exact CH.digs) (fun _ => by rw [sl, ss]; exact CH.last) W DW
  obtain ⟨dl, hdl⟩ : ∃ dl, Hid (dl = if lessD g nd s then d - 1 else d) := ⟨_, Lib.hid rfl⟩
  obtain ⟨D0, hD0⟩ : ∃ x, Hid (dval g nd = x) := ⟨_, Lib.hid rfl⟩
  have HB : Hid (D0 * P < 10 ^ (nd + dl) ∧ 10 ^ (nd + dl - 1) ≤ D0 * P) := Lib.hid (by
    have e : lessD g nd s = decide (dval g nd * 10 ^ l.length < 5 ^ k * 10 ^ nd) := by
      unfold lessD; rw [sl, ss, CH.val]
    rw [hdl.out, ← hD0.out, ← hP.out, e]
    by_cases hh : dval g nd * 10 ^ l.length < 5 ^ k * 10 ^ nd
    · rw [decide_eq_true hh, if_pos rfl]; exact cheat_less CH h1 h0 hh
    · rw [decide_eq_false hh]; simp only [Bool.false_eq_true, if_false]; exact cheat_more CH hg h1 (by omega))
  have HDL : Hid (D0 < 10 ^ nd) := Lib.hid (by rw [← hD0.out]; exact dval_lt nd hg)
  have dl61 : dl ≤ 61 := by
    have := CH.sum; have := hdl.out; split at this <;> omega
  have d61 : d ≤ 61 := by have := CH.sum; omega
  have d1 : 1 ≤ d := CH.one
  have hsl : ∀ W, (Instr.sliceAt 136 (.pointer (some ⟨q, 0, none⟩)) (some (.int .i64 0)) (some (.int .i64 (nd : Int))) none).run Tryz.prog W = .ok (.slice (some ⟨q, 0, none⟩) nd 800) W := fun W => by
    have hal : Tryz.prog.arrayLen 136 = 800 := by kernel_rfl
    have hel : Tryz.prog.elem 136 = 5 := by kernel_rfl
    rw [run_sliceAt_array_lh W 136 ⟨q, 0, none⟩ (by rw [hal, hel]; exact Tryz.underlying136) .i64 .i64 0 (nd : Int) (by omega) (by omega) (by rw [hal]; omega), hal, hel, Tryz.sizeOf5]
    show Result.ok (slicedAt ⟨q, 0, none⟩ 0 (nd : Int).toNat 800 1) W = _
    unfold slicedAt
    rw [Int.toNat_natCast, if_neg (by omega)]
    rfl
  have HG := Lib.hid hg
  have HD := Lib.hid D
  have hLq : ∀ n, Calls Tryz.prog 158 #[.slice (some ⟨q, 0, none⟩) nd 800, .string s] (w.drewN n) fun e w' => e = .returned (.bool (lessD g nd s)) ∧ ∃ m, w' = (w.drewN n).drewN m := fun n => hL _ (D.drewN n)
  obtain ⟨ls, hls⟩ : ∃ x, Hid (lessD g nd s = x) := ⟨_, Lib.hid rfl⟩
  rw [hls.out] at hdl hLq
  have c1 := D.ndc
  clear hL D hg CH sl ss hs
  go_enter Tryz.func138, Tryz.ntmps138
  go_upto_region 1 with fail
  go_cut [30] from 17 to 29 (fun s30 wy => s30 = .bool ls ∧ Hid (Dr B q wy g nd dp neg tr) ∧ Hid (Below B w wy))
  case first =>
    go_quiet (with_reducible exact Calls.quiet_of (hLq _))
    have HY := Lib.hid (HD.out.drewN nq)
    have HV : Hid (Below B w (w.drewN nq)) := Lib.hid (below_drewN (Below.refl _ _) _)
    go_wp2_with fail
    go_meet
    exact ⟨rfl, HY, HV⟩
  case rest =>
    obtain ⟨rfl, HX0, HV0⟩ := hcut
    clear c1 t1 t3 t4 hsl hLq HD
    go_upto_if 30 with fail
    go_cut [4, 30] from 30 to 32 (fun s4 _ wy => s4 = .int .i64 dl ∧ wy = wc)
    case first =>
      cases ls with
      | true =>
        have e1 : (d : Int) - 1 = (dl : Int) := by have := hdl.out; simp at this; omega
        go_wp2_with fail
        go_meet
        exact ⟨rfl, rfl⟩
      | false =>
        go_wp2_with fail
        go_meet
        exact ⟨by have := hdl.out; simp at this; rw [this], rfl⟩
    case rest =>
    obtain ⟨rfl, rfl⟩ := hcut
    have hb0 := HV0.out
    have c1 := HX0.out.ndc
    have hD := HDL.out
    go_upto_block 0 with fail
    go_cut [5, 6, 7, 8, 9] from 45 to 84 (fun s5 s6 s7 _ _ wy => ∃ (n : Nat) (g' : Nat → Nat) (tr' : Bool), s6 = .int .i64 dl ∧ s7 = .int .u64 n ∧ n < P ∧ Hid (LS D0 P nd dl dl n g') ∧ Hid (Dr B q wy g' nd dp neg tr') ∧ Hid (Below B w wy))
    case first =>
      go_wp2_with fail
      go_loopw [5, 6, 7, 8, 9] (fun s5 s6 s7 _ _ wr => ∃ (x : Int) (rr n : Nat) (g' : Nat → Nat) (tr' : Bool), s5 = .int .i64 x ∧ x = (rr : Int) - 1 ∧ rr ≤ nd ∧ s6 = .int .i64 ((rr : Int) + (dl : Int)) ∧ s7 = .int .u64 n ∧ n < P ∧ Hid (LS D0 P nd dl (rr + dl) n g') ∧ Hid (∀ i, i < rr → g' i = g i) ∧ Hid (Dr B q wr g' nd dp neg tr') ∧ Hid (Below B w wr)) (fun s5 _ _ _ _ _ => (intOf s5 + 1).toNat)
      case atStart => exact ⟨(nd : Int) - 1, nd, 0, g, tr, rfl, rfl, Nat.le_refl _, rfl, rfl, by omega, Lib.hid ⟨by rw [Nat.sub_self, Nat.pow_zero, Nat.mod_one]; simp, fun i a1 a2 => by omega, fun e => by omega⟩, Lib.hid fun _ _ => rfl, HX0, HV0⟩
      case round =>
        clear hb0 c1 HX0 HV0
        obtain ⟨x, rr, n, g', tr', rfl, ex, hrr, rfl, rfl, hn, HL, HS, HX, HV⟩ := hrel
        by_cases hr0 : rr = 0
        · subst hr0
          have d3 : decide ((0 : Int) ≤ x) = false := by simp; omega
          have d3' : x < 0 := by omega
          clear ex
          have HL' : Hid (LS D0 P nd dl dl n g') := Lib.hid (by have := HL.out; rw [Nat.zero_add] at this; exact this)
          clear HL
          have e0 : ((0 : Nat) : Int) + (dl : Int) = (dl : Int) := by omega
          rw [e0]
          go_wp2_with fail
          go_meet
          exact ⟨n, g', tr', rfl, rfl, hn, HL', HX, HV⟩
        · obtain ⟨r, rfl⟩ : ∃ r, rr = r + 1 := ⟨rr - 1, by omega⟩
          have ex' : x = (r : Int) := by omega
          subst ex'
          clear ex hr0
          have d3 : (0 : Int) ≤ (r : Int) := by omega
          have c2 := HX.out.dig r (by omega)
          rw [HS.out r (by omega)] at c2
          have gd := HG.out r (by omega)
          obtain ⟨c, hc⟩ : ∃ c, Hid (g r - 48 = c) := ⟨_, Lib.hid rfl⟩
          have c9 : c ≤ 9 := by have := hc.out; omega
          have egc : g r = c + 48 := by have := hc.out; omega
          rw [egc] at c2
          have hdg : Hid (D0 / 10 ^ (nd + dl - (r + dl + 1)) % 10 = c) := Lib.hid (by
            rw [show nd + dl - (r + dl + 1) = nd - (r + 1) by omega, ← hD0.out, dval_cut HG.out _ (by omega), show nd - (nd - (r + 1)) = r + 1 by omega, (dval_div (HG.out.le (by omega))).2]
            exact hc.out)
          clear gd egc
          obtain ⟨cp, hcp⟩ : ∃ y, Hid (c * P = y) := ⟨_, Lib.hid rfl⟩
          have cp1 : cp ≤ 9 * P := by rw [← hcp.out]; exact Nat.mul_le_mul_right _ c9
          have esh : (c : Int) * 2 ^ k = (cp : Int) := by
            rw [← hcp.out, show (2 : Int) ^ k = (P : Int) by rw [← hP.out]; push_cast; rfl]; push_cast; rfl
          have esh2 : IntKind.u64.wrap ((c : Int) * 2 ^ k) = (cp : Int) := by rw [esh, wrap_u64]; omega
          obtain ⟨T, hT⟩ : ∃ y, Hid (n + cp = y) := ⟨_, Lib.hid rfl⟩
          have eT : (n : Int) + (cp : Int) = (T : Int) := by have := hT.out; omega
          have T1 : T < 10 * P := by have := hT.out; omega
          obtain ⟨u, hu⟩ : ∃ y, Hid (T / 10 = y) := ⟨_, Lib.hid rfl⟩
          have eu : (T : Int) / 10 = (u : Int) := by have := hu.out; omega
          obtain ⟨m, hm⟩ : ∃ y, Hid (T % 10 = y) := ⟨_, Lib.hid rfl⟩
          have em : (T : Int) - 10 * (u : Int) = (m : Int) := by have := hm.out; have := hu.out; omega
          have m9 : m ≤ 9 := by have := hm.out; omega
          have u1 : u < P := by have := hu.out; omega
          obtain ⟨v, hv⟩ : ∃ v, Hid (48 + m = v) := ⟨_, Lib.hid rfl⟩
          have ev : (m : Int) + 48 = (v : Int) := by have := hv.out; omega
          have v1 : 48 ≤ v := by have := hv.out; omega
          have v2 : v ≤ 57 := by have := hv.out; omega
          obtain ⟨p, hp⟩ : ∃ p, Hid (r + dl = p) := ⟨_, Lib.hid rfl⟩
          have epp : ((r : Int) + 1) + (dl : Int) - 1 = (p : Int) := by have := hp.out; omega
          have epq : (r : Int) + 1 + (dl : Int) - 1 = (p : Int) := epp
          have pb : p ≤ 900 := by have := hp.out; omega
          have HL1 : Hid (LS D0 P nd dl (p + 1) n g') := Lib.hid (by have := HL.out; rw [← hp.out, show r + dl + 1 = r + 1 + dl by omega]; exact this)
          rw [hp.out] at hdg
          by_cases p8 : p < 800
          · have d4 : (p : Int) < 800 := by omega
            have HL2 : Hid (LS D0 P nd dl p u (put g' p v)) := Lib.hid (by
              have := HL1.out.step hD HB.out.1 c hdg.out (by have := hp.out; omega) p8
              rw [hcp.out, hT.out, hu.out, hm.out, hv.out] at this
              exact this)
            have HS2 : Hid (∀ i, i < r → put g' p v i = g i) := Lib.hid (fun i hi => by
              rw [put_ne g' v (by have := hp.out; omega)]; exact HS.out i (by omega))
            have zf := HX.out.frz p
            obtain ⟨y, cy⟩ : ∃ y, wr.cell? ⟨q, p, none⟩ = some y := ⟨_, HX.out.dig p p8⟩
            have HX' := Lib.hid (HX.out.putD p8 v)
            have HV' : Hid (Below B w (wr.setCell ⟨q, p, none⟩ (.int .u8 (v : Int)))) := Lib.hid (HV.out.setCell HX.out.le _)
            clear HL HL1 HS HX HV hdg hD
            go_wp2_with fail
            exact ⟨⟨_, r, u, _, tr', rfl, rfl, by omega, by rw [show (r : Int) + (dl : Int) = (p : Int) by omega], rfl, u1, by rw [hp.out]; exact HL2, HS2, HX', HV'⟩, by simp [intOf] <;> omega⟩
          · have d4 : decide ((p : Int) < 800) = false := by simp; omega
            have d4' : (800 : Int) ≤ (p : Int) := by omega
            have HL2 : Hid (LS D0 P nd dl p u g') := Lib.hid (by
              have := HL1.out.stepNo c hdg.out (by have := hp.out; omega) (by omega)
              rw [hcp.out, hT.out, hu.out] at this
              exact this)
            have HS2 : Hid (∀ i, i < r → g' i = g i) := Lib.hid (fun i hi => HS.out i (by omega))
            have zf := HX.out.frz 803
            have cy := HX.out.trc
            by_cases hm0 : m = 0
            · have d5 : ((m : Int) == 0) = true := by rw [beq_iff_eq]; omega
              have hm0' := Lib.hid hm0
              clear HL HL1 HS hdg hD hm0
              go_wp2_with fail
              exact ⟨⟨_, r, u, g', tr', rfl, rfl, by omega, by rw [show (r : Int) + (dl : Int) = (p : Int) by omega], rfl, u1, by rw [hp.out]; exact HL2, HS2, HX, HV⟩, by simp [intOf] <;> omega⟩
            · have d5 : ((m : Int) == 0) = false := by rw [beq_eq_false_iff_ne]; omega
              have HX' := Lib.hid (HX.out.putTr true)
              have HV' : Hid (Below B w (wr.setCell ⟨q, 803, none⟩ (.bool true))) := Lib.hid (HV.out.setCell HX.out.le _)
              clear HL HL1 HS HX HV hdg hD
              go_wp2_with fail
              exact ⟨⟨_, r, u, g', true, rfl, rfl, by omega, by rw [show (r : Int) + (dl : Int) = (p : Int) by omega], rfl, u1, by rw [hp.out]; exact HL2, HS2, HX', HV'⟩, by simp [intOf] <;> omega⟩
    case rest =>
      clear HX0 HV0 hb0 c1
      obtain ⟨n1, g1, tr1, rfl, rfl, hn1, HL1, HX1, HV1⟩ := hcut
      go_upto_block 2 with fail
      go_cut [6, 7, 10, 11] from 85 to 110 (fun _ _ _ _ wy => ∃ (g' : Nat → Nat) (tr' : Bool), Hid (LS D0 P nd dl 0 0 g') ∧ Hid (Dr B q wy g' nd dp neg tr') ∧ Hid (Below B w wy))
      case first =>
        go_wp2_with fail
        go_loopw [6, 7, 10, 11] (fun s6 s7 _ _ wr => ∃ (wd n : Nat) (g' : Nat → Nat) (tr' : Bool), s6 = .int .i64 wd ∧ s7 = .int .u64 n ∧ wd ≤ dl ∧ n < P ∧ Hid (LS D0 P nd dl wd n g') ∧ Hid (Dr B q wr g' nd dp neg tr') ∧ Hid (Below B w wr)) (fun _ s7 _ _ _ => (intOf s7).toNat)
        case atStart => exact ⟨dl, n1, g1, tr1, rfl, rfl, Nat.le_refl _, hn1, HL1, HX1, HV1⟩
        case round =>
          clear HL1 HX1 HV1 hn1
          obtain ⟨wd, n, g', tr', rfl, rfl, hwd, hn, HL, HX, HV⟩ := hrel
          by_cases hn0 : n = 0
          · have d3 : decide ((0 : Int) < (n : Int)) = false := by simp; omega
            have d3' : decide (0 < n) = false := by simp; omega
            have HL' : Hid (LS D0 P nd dl 0 0 g') := Lib.hid (by
              have := HL.out
              rw [hn0] at this
              have e := this.done hD hwd HB.out.2
              rw [e] at this
              exact this)
            have hn0' := Lib.hid hn0
            clear hn0
            go_wp2_with fail
            go_meet
            exact ⟨g', tr', HL', HX, HV⟩
          · have d3 : (0 : Int) < (n : Int) := by omega
            have w1 : 1 ≤ wd := by
              rcases Nat.eq_zero_or_pos wd with e | e
              · subst e; exact absurd (HL.out.more hD HB.out.1) hn0
              · exact e
            obtain ⟨p, hp⟩ : ∃ p, wd = p + 1 := ⟨wd - 1, by omega⟩
            have epp : (wd : Int) - 1 = (p : Int) := by omega
            have pb : p ≤ 900 := by omega
            have HL1 : Hid (LS D0 P nd dl (p + 1) n g') := Lib.hid (by rw [← hp]; exact HL.out)
            have hdg : Hid (D0 / 10 ^ (nd + dl - (p + 1)) % 10 = 0) := Lib.hid (HL1.out.beyond hD (by omega)).2
            have hp' := Lib.hid hp
            clear hp
            obtain ⟨u, hu⟩ : ∃ y, Hid (n / 10 = y) := ⟨_, Lib.hid rfl⟩
            have eu : (n : Int) / 10 = (u : Int) := by have := hu.out; omega
            obtain ⟨m, hm⟩ : ∃ y, Hid (n % 10 = y) := ⟨_, Lib.hid rfl⟩
            have em : (n : Int) - 10 * (u : Int) = (m : Int) := by have := hm.out; have := hu.out; omega
            have m9 : m ≤ 9 := by have := hm.out; omega
            have u1 : u < n := by have := hu.out; omega
            obtain ⟨v, hv⟩ : ∃ v, Hid (48 + m = v) := ⟨_, Lib.hid rfl⟩
            have ev : (m : Int) + 48 = (v : Int) := by have := hv.out; omega
            have v1 : 48 ≤ v := by have := hv.out; omega
            have v2 : v ≤ 57 := by have := hv.out; omega
            by_cases p8 : p < 800
            · have d4 : (p : Int) < 800 := by omega
              have HL2 : Hid (LS D0 P nd dl p u (put g' p v)) := Lib.hid (by
                have := HL1.out.step hD HB.out.1 0 hdg.out (by have := hp'.out; omega) p8
                rw [Nat.zero_mul, Nat.add_zero, hu.out, hm.out, hv.out] at this
                exact this)
              have zf := HX.out.frz p
              obtain ⟨y, cy⟩ : ∃ y, wr.cell? ⟨q, p, none⟩ = some y := ⟨_, HX.out.dig p p8⟩
              have HX' := Lib.hid (HX.out.putD p8 v)
              have HV' : Hid (Below B w (wr.setCell ⟨q, p, none⟩ (.int .u8 (v : Int)))) := Lib.hid (HV.out.setCell HX.out.le _)
              clear HL HL1 HX HV hdg hD
              go_wp2_with fail
              exact ⟨⟨p, u, _, tr', rfl, rfl, by omega, by omega, HL2, HX', HV'⟩, by simp [intOf] <;> omega⟩
            · have := hp'.out; omega
      case rest =>
        clear HL1 HX1 HV1 hn1
        obtain ⟨g', tr', HL, HX, HV⟩ := hcut
        have e0 := HL.out.first rfl
        obtain ⟨F, hF⟩ : ∃ F, Hid (D0 * P / 10 ^ (nd + dl - 1) = F) := ⟨_, Lib.hid rfl⟩
        rw [hF.out] at e0
        have F1 : 1 ≤ F := by rw [← hF.out]; exact Nat.div_pos HB.out.2 (Nat.pow_pos (by decide))
        have F0 : Hid (dl = 0 → g 0 < 48 + F) := Lib.hid (fun e => by
          have a1 := dval_first HG.out h1
          have a2 : P * (D0 / 10 ^ (nd - 1)) ≤ D0 * P / 10 ^ (nd - 1) := by
            rw [Nat.mul_comm D0]; exact Nat.mul_div_le_mul_div_assoc P D0 (10 ^ (nd - 1))
          have hF2 := hF.out
          rw [e, Nat.add_zero] at hF2
          rw [hF2, ← hD0.out, a1] at a2
          have a3 : 2 * (g 0 - 48) ≤ P * (g 0 - 48) := Nat.mul_le_mul_right _ p1
          omega)
        have GD : Hid (∀ i, i < nd + dl → i < 800 → 48 ≤ g' i ∧ g' i ≤ 57) := Lib.hid (fun i a1 a2 => HL.out.digs i (Nat.zero_le _) a1 a2)
        obtain ⟨N, hN⟩ : ∃ N, Hid (N = nd + dl) := ⟨_, Lib.hid rfl⟩
        have eN : (nd : Int) + (dl : Int) = (N : Int) := by have := hN.out; omega
        have N1 : 1 ≤ N := by have := hN.out; omega
        have N2 : N ≤ 900 := by have := hN.out; omega
        have e0' := Lib.hid e0
        have hb := HV.out
        clear e0 hD HL HV
        have c1 := HX.out.ndc
        have z1 := HX.out.frz 800
        obtain ⟨d2, hd⟩ : ∃ d2, Hid (dp + (dl : Int) = d2) := ⟨_, Lib.hid rfl⟩
        have ed : dp + (dl : Int) = d2 := hd.out
        have D1 := HX.out.putNd N
        have hb1 : Below B w (wc.setCell ⟨q, 800, none⟩ (.int .i64 (N : Int))) := hb.setCell HX.out.le _
        obtain ⟨W1, hW1⟩ : ∃ W, Hid (wc.setCell ⟨q, 800, none⟩ (.int .i64 (N : Int)) = W) := ⟨_, Lib.hid rfl⟩
        rw [hW1.out] at D1 hb1
        go_upto_region 28 with fail
        rw [hW1.out]
        clear c1 z1 hW1
        have c1 := D1.ndc
        have c2 := D1.dpc
        have z1 := D1.frz 800
        have z2 := D1.frz 801
        by_cases N8 : N < 800
        · have d3 : decide ((800 : Int) ≤ (N : Int)) = false := by simp; omega
          have d3' : (N : Int) < 800 := by omega
          have HQ : Hid (Digs g' N ∧ g' 0 = 48 + F) := Lib.hid ⟨fun i hi => GD.out i (by have := hN.out; omega) (by omega), e0'.out⟩
          have D2 := D1.putDp d2
          have hb2 : Below B w (W1.setCell ⟨q, 801, none⟩ (.int .i64 d2)) := hb1.setCell D1.le _
          obtain ⟨W2, hW2⟩ : ∃ W, Hid (W1.setCell ⟨q, 801, none⟩ (.int .i64 d2) = W) := ⟨_, Lib.hid rfl⟩
          rw [hW2.out] at D2 hb2
          have hT := dtrim_any B q N g' d2 neg tr' N1 (by omega) (by have := HQ.out.2; omega) _ D2
          clear GD
          go_upto_region 31 with fail
          rw [hW2.out]
          go_wp2_with fail
          refine hT.mono ?_
          rintro e w3 ⟨rfl, nd', a1, a2, DX, b3⟩
          go_wp2_with fail
          refine bodyPost_end (results_none rfl _ _ _) rfl ?_
          exact ⟨rfl, g', nd', dl, tr', dl61, fun e => by rw [HQ.out.2]; exact F0.out e, a1, by omega, HQ.out.1.le a2, by have := HQ.out.2; omega, by rw [hd.out]; exact DX, hb2.trans b3⟩
        · have d3 : (800 : Int) ≤ (N : Int) := by omega
          have HQ : Hid (Digs g' 800 ∧ g' 0 = 48 + F) := Lib.hid ⟨fun i hi => GD.out i (by have := hN.out; omega) (by omega), e0'.out⟩
          have D2 := D1.putNd 800
          have hb2 : Below B w (W1.setCell ⟨q, 800, none⟩ (.int .i64 ((800 : Nat) : Int))) := hb1.setCell D1.le _
          obtain ⟨W2, hW2⟩ : ∃ W, Hid (W1.setCell ⟨q, 800, none⟩ (.int .i64 ((800 : Nat) : Int)) = W) := ⟨_, Lib.hid rfl⟩
          rw [hW2.out] at D2 hb2
          have hW2' : Hid (W1.setCell ⟨q, 800, none⟩ (.int .i64 800) = W2) := hW2
          go_upto_region 30 with fail
          rw [hW2'.out]
          clear c1 c2 z1 z2
          have c2 := D2.dpc
          have z2 := D2.frz 801
          have D3 := D2.putDp d2
          have hb3 : Below B w (W2.setCell ⟨q, 801, none⟩ (.int .i64 d2)) := hb2.setCell D2.le _
          obtain ⟨W3, hW3⟩ : ∃ W, Hid (W2.setCell ⟨q, 801, none⟩ (.int .i64 d2) = W) := ⟨_, Lib.hid rfl⟩
          rw [hW3.out] at D3 hb3
          have hT := dtrim_any B q 800 g' d2 neg tr' (by omega) (by omega) (by have := HQ.out.2; omega) _ D3
          clear GD
          go_upto_region 31 with fail
          rw [hW3.out]
          go_wp2_with fail
          refine hT.mono ?_
          rintro e w3 ⟨rfl, nd', a1, a2, DX, b3⟩
          go_wp2_with fail
          refine bodyPost_end (results_none rfl _ _ _) rfl ?_
          exact ⟨rfl, g', nd', dl, tr', dl61, fun e => by rw [HQ.out.2]; exact F0.out e, a1, by omega, HQ.out.1.le a2, by have := HQ.out.2; omega, by rw [hd.out]; exact DX, hb3.trans b3⟩
end Go.Proofs.YtadlppllbebkdaaGreatDoor
