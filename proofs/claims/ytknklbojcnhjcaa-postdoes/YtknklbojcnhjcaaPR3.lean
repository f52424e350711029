/- The document's side: Wait. -/
import Derived.Test.YtknklbojcnhjcaaPR2
namespace Go.Proofs.Ytknklbojcnhjcaa
open Go.RowKit

theorem anyP_yes {ss : List LS} {p : Int} {i k : Nat} (hi : i < ss.length) (hk : k < (lnOf ss i).ws.length) (h : ((lnOf ss i).ws.getD k (0, 0)).1 = p) : anyP ss p = true := by
  unfold anyP
  rw [List.any_eq_true]
  refine ⟨lnOf ss i, lnOf_mem hi, ?_⟩
  simp only [decide_eq_true_eq]
  rcases idxL_cases (lnOf ss i).ws p with ⟨_, h2⟩ | ⟨j, h2, _⟩
  · exfalso
    refine h2 ((lnOf ss i).ws.getD k (0, 0)) ?_ h
    rw [List.getD_eq_getElem?_getD, List.getElem?_eq_getElem hk]
    exact List.getElem_mem hk
  · omega
/-- Nobody of that number waits in another lane: then it is the lane's own answer. -/
theorem waitP_ref {ss : List LS} {cur i : Nat} {p v : Int} (hg : GoodP ss cur) (hi : i < ss.length) (h : ∀ j, j < ss.length → j ≠ i → idxL (lnOf ss j).ws p = -1) : waitP ss (i : Int) p v = ((waitL (lnOf ss i) p v).1, ss.set i (waitL (lnOf ss i) p v).2) := by
  have hP : isP ss.length (i : Int) = true := by simp [isP]; omega
  unfold waitP
  rw [hP, Int.toNat_natCast]
  simp only [if_true]
  by_cases hx : 0 ≤ idxL (lnOf ss i).ws p
  · have ha : anyP ss p = true := by
      unfold anyP
      rw [List.any_eq_true]
      exact ⟨lnOf ss i, lnOf_mem hi, by simpa using hx⟩
    have hw : (lnOf ss i).ws.length ≠ 0 := fun e => by
      have := List.eq_nil_of_length_eq_zero e
      rw [this] at hx
      simp [idxL] at hx
    have hfull : (lnOf ss i).vs.length = (lnOf ss i).room := by
      have h1 := (hg.at hi).may.2.1
      have h2 := (hg.at hi).len
      omega
    rw [ha]
    simp only [if_true]
    unfold waitL
    rw [if_pos hfull, if_pos hx]
    simp only
    rw [set_same hi]
  · have ha : anyP ss p = false := by
      unfold anyP
      rw [List.any_eq_false]
      intro s hs
      obtain ⟨j, hj, e⟩ := List.getElem_of_mem hs
      have es : lnOf ss j = s := by unfold lnOf; rw [List.getD_eq_getElem?_getD, List.getElem?_eq_getElem hj, ← e]; rfl
      simp only [decide_eq_true_eq]
      rw [← es]
      by_cases e2 : j = i
      · subst e2; exact hx
      · rw [h j hj e2]; omega
    rw [ha]
    simp

set_option maxRecDepth 100000 in
set_option maxHeartbeats 2000000 in
theorem rpwait_any {b : Nat} {F : Nat → Prop} {ss : List LS} {cur : Nat} {w : World} (h : Ps w 65 91 66 b F ss cur) (hg : GoodP ss cur) (hfew : FewP ss 7000000000000) (lane p v : Int) :
    Calls Try.prog 30 #[.pointer (some ⟨b, 0, none⟩), .int .i64 lane, .int .i64 p, .int .i64 v] w fun e w' => e = .returned (.int .i64 (waitP ss lane p v).1) ∧ PsOut w 65 91 66 b F (waitP ss lane p v).2 cur w' := by
  have hh := is_any h lane
  cases hb : isP ss.length lane with
  | false =>
    rw [show waitP ss lane p v = (2, ss) by unfold waitP; rw [hb]; rfl]
    rw [hb] at hh
    have HO := hd (PsOut.same h (below_same w))
    clear h hg
    simp only
    go_enter Try.func30, Try.ntmps30
    go_wp2_with (first | (go_at_call 49; refine hh.mono ?_; rintro e1 w1 ⟨rfl, rfl⟩))
    go_ret
    exact ⟨rfl, HO.out⟩
  | true =>
    have hl := isP_yes hb
    obtain ⟨x, rfl⟩ : ∃ x : Nat, lane = (x : Int) := ⟨lane.toNat, by omega⟩
    have hxl : x < ss.length := by omega
    obtain ⟨Q, hQ⟩ : ∃ Q : Ending → World → Prop, Hid ((fun e w' => e = .returned (.int .i64 (waitP ss (x : Int) p v).1) ∧ PsOut w 65 91 66 b F (waitP ss (x : Int) p v).2 cur w') = Q) := ⟨_, rfl⟩
    rw [hQ.out]
    rw [hb] at hh
    have HPS := hd h
    have HBB := hd hb
    obtain ⟨a, cap, bs, Fs, h, hF, -⟩ := h
    have HP := hd h
    have HF := hd hF
    have HG := hd hg
    obtain ⟨k0, k1⟩ := h.cells
    have hn9 := hg.n2
    obtain ⟨n, hnn⟩ : ∃ n, Hid (ss.length = n) := ⟨_, rfl⟩
    have hxn' : (x : Int) < (n : Int) := by rw [← hnn.out]; omega
    have hxn : x < n := by omega
    rw [hnn.out] at k0 hn9
    clear h hF hg hl hb
    go_enter Try.func30, Try.ntmps30
    go_wp2_with (first | (go_at_call 49; refine hh.mono ?_; rintro e1 w ⟨rfl, rfl⟩))
    go_loopg [10, 11] n (fun k v10 v11 wr => ∃ i : Nat, v10 = .int .i64 (i : Int) ∧ i + k = n ∧ wr = w ∧ Hid (∀ j, j < i → j ≠ x → idxL (lnOf ss j).ws p = -1))
    case atStart => exact ⟨0, rfl, by omega, rfl, hd (fun j hj => by omega)⟩
    case round =>
      obtain ⟨i, rfl, hik, hwr, HH⟩ := hrel
      obtain rfl : w = wr := hwr.symm
      by_cases hlt : i < n
      · have hlt' : (i : Int) < (n : Int) := by omega
        have hil : i < ss.length := by rw [hnn.out]; exact hlt
        obtain ⟨g, rfl, kp⟩ := HP.out.ptr i hil
        obtain ⟨a1, c1, a2, c2, hL, -, -⟩ := HP.out.lns i hil
        obtain ⟨-, -, l2, -, -⟩ := hL.cells
        have HRW := hd hL.wts.rd
        have hwl := hfew _ (lnOf_mem hil)
        obtain ⟨s, hs⟩ : ∃ s, Hid (lnOf ss i = s) := ⟨_, rfl⟩
        obtain ⟨pb, hpb⟩ : ∃ q, Hid (bs.getD i 0 = q) := ⟨_, rfl⟩
        rw [hs.out, hpb.out] at l2
        rw [hs.out] at HRW hwl
        rw [hpb.out] at kp
        obtain ⟨wn, hwn⟩ : ∃ wn, Hid (s.ws.length = wn) := ⟨_, rfl⟩
        rw [hwn.out] at l2 hwl
        clear hL hil
        go_wp2_with fail
        go_loopg [11] wn (fun k v11 wr => ∃ y : Nat, v11 = .int .i64 (y : Int) ∧ y + k = wn ∧ wr = w ∧ Hid (∀ z, z < y → (s.ws.getD z (0, 0)).1 ≠ p))
        case atStart => exact ⟨0, rfl, by omega, rfl, hd (fun z hz => by omega)⟩
        case round =>
          obtain ⟨y, rfl, hyk, hwr, HY⟩ := hrel
          obtain rfl : w = wr := hwr.symm
          by_cases hgo : y < wn ∧ i ≠ x
          · obtain ⟨hy, hix⟩ := hgo
            have hy' : (y : Int) < (wn : Int) := by omega
            have hix' : ((i : Int) == (x : Int)) = false := by simp; omega
            obtain ⟨bw, ow, rfl, cw, -⟩ := rd_w HRW.out y (by rw [hwn.out]; exact hy)
            obtain ⟨z, hz⟩ : ∃ z, Hid ((s.ws.getD y (0, 0)).1 = z) := ⟨_, rfl⟩
            rw [hz.out] at cw
            by_cases hzp : z = p
            · have hzp' : (z == p) = true := by simp [hzp]
              have HA : Hid (waitP ss (x : Int) p v = (8, ss)) := hd (by
                have h1 := anyP_yes (ss := ss) (p := p) (i := i) (k := y) (by rw [hnn.out]; exact hlt) (by rw [hs.out, hwn.out]; exact hy) (by rw [hs.out, hz.out]; exact hzp)
                unfold waitP
                rw [HBB.out, h1]
                rfl)
              clear hzp
              go_wp2_with fail
              rw [← hQ.out, HA.out]
              exact ⟨rfl, PsOut.same HPS.out (below_same _)⟩
            · have hzp' : (z == p) = false := by simp [hzp]
              have HZ : Hid ((s.ws.getD y (0, 0)).1 ≠ p) := hd (by rw [hz.out]; exact hzp)
              clear hzp
              go_wp2_with fail
              go_roundg (gk - 1)
              case measure => omega
              case rel => exact ⟨y + 1, by go_num, by omega, rfl, hd (fun z' hz' => by
                by_cases e : z' = y
                · rw [e]; exact HZ.out
                · exact HY.out z' (by omega))⟩
          · have HNX : Hid (∀ j, j < i + 1 → j ≠ x → idxL (lnOf ss j).ws p = -1) := hd (fun j hj hjx => by
              by_cases e : j = i
              · subst e
                rw [hs.out]
                exact idxL_none (fun z hz => HY.out z (by have := hwn.out; omega))
              · exact HH.out j (by omega) hjx)
            have hcs : decide ((y : Int) < (wn : Int)) = false ∨ ((y : Int) < (wn : Int) ∧ ((i : Int) == (x : Int)) = true) := by
              by_cases h : y < wn
              · right; exact ⟨by omega, by simp; omega⟩
              · left; simp; omega
            clear hgo
            rcases hcs with hcs | ⟨hcs, hcs2⟩
            · have hle : (wn : Int) ≤ (y : Int) := by simpa using hcs
              go_wp2_with fail
              go_roundg (n - (i + 1))
              case measure => omega
              case rel => exact ⟨i + 1, by go_num, by omega, rfl, HNX⟩
            · go_wp2_with fail
              go_roundg (n - (i + 1))
              case measure => omega
              case rel => exact ⟨i + 1, by go_num, by omega, rfl, HNX⟩
      · have hltd : decide ((i : Int) < (n : Int)) = false := by simp; omega
        have hle : (n : Int) ≤ (i : Int) := by omega
        have HW : Hid (waitP ss (x : Int) p v = ((waitL (lnOf ss x) p v).1, ss.set x (waitL (lnOf ss x) p v).2)) := hd (waitP_ref HG.out hxl (fun j hj hjx => HH.out j (by have := hnn.out; omega) hjx))
        obtain ⟨g, rfl, kp⟩ := HP.out.ptr x hxl
        have hwt := rwait_any (HP.out.lns x hxl) (HG.out.at hxl) p v (hfew _ (lnOf_mem hxl))
        have HN : Hid (∀ w2, LnOut w 91 (bs.getD x 0) (Fs x) (waitL (lnOf ss x) p v).2 w2 → PsOut w 65 91 66 b F (ss.set x (waitL (lnOf ss x) p v).2) cur w2) := hd (fun w2 ho => by
          obtain ⟨Fs2, h2⟩ := HP.out.to.lane hxl ho
          exact h2.out (by rw [List.length_set]; exact HF.out))
        obtain ⟨r, hr⟩ : ∃ r, Hid (waitL (lnOf ss x) p v = r) := ⟨_, rfl⟩
        obtain ⟨pb, hpb⟩ : ∃ q, Hid (bs.getD x 0 = q) := ⟨_, rfl⟩
        rw [hr.out] at HW HN hwt
        rw [hpb.out] at kp hwt HN
        go_wp2_with (first | (go_at_call 56; refine hwt.mono ?_; rintro e2 w2 ⟨rfl, ho⟩))
        rw [← hQ.out, HW.out]
        exact ⟨rfl, HN.out _ ho⟩
end Go.Proofs.Ytknklbojcnhjcaa
