/- The document's reader: a config. -/
import Derived.Test.YtmjokinagbpihaaDoorKD5
namespace Go.Proofs.YtmjokinagbpihaaDoor.Doc
open Go.RowKit

def DOut (w : World) (r : Nat) (a : Option Addr) (cap : Nat) (bs : List Nat) (e : Ending) (w' : World) : Prop :=
  ∃ C g s', e = .returned (cfV C g) ∧ ROut w r a cap bs s' w' ∧ CfO w.heap.size w' C g ∧ Stage (wholeC bs) s' (fin C bs s'.nx)
theorem p2_eq : bind_ P2 fin = bind_ (numP 1 fun n => cntE 8 n) (fun n => bind_ (repP (fun acc => numP 8 (labE acc)) n []) (fun L => bind_ (P3 L) fin)) := by
  unfold P2 labP
  rw [bind_assoc, bind_assoc]
theorem p3_eq (L : List Nat) : bind_ (P3 L) fin = bind_ (numP 1 fun n => cntE 64 n) (fun n => bind_ (repP (fun _ => numP 1 fun n => rngE 0 ((L.length : Int) - 1) n) n []) (fun T => bind_ (P4 L T) fin)) := by
  unfold P3 tabP ptP
  rw [bind_assoc, bind_assoc]
theorem p4_eq (L T : List Nat) : bind_ (P4 L T) fin = bind_ (numP 2 fun k => rngE 1 256 k) (fun f => bind_ (P5 L T f) fin) := by
  unfold P4 fuelP
  rw [bind_assoc]
theorem p5_eq (L T : List Nat) (f : Nat) : bind_ (P5 L T f) fin = bind_ (numP 1 fun k => rngE 1 64 k) (fun g => bind_ (P6 L T f g) fin) := by
  unfold P5 laneP
  rw [bind_assoc]
theorem p6_eq (L T : List Nat) (f g : Nat) : bind_ (P6 L T f g) fin = bind_ (numP 1 fun k => rngE 0 8 k) (fun h => bind_ (P7 L T f g h) fin) := by
  unfold P6 locksP
  rw [bind_assoc]
theorem p7_eq (L T : List Nat) (f g h : Nat) : bind_ (P7 L T f g h) fin = bind_ (numP 2 fun k => rngE 0 4096 k) (fun i => bind_ (P8 L T f g h i) fin) := by
  unfold P7 logP
  rw [bind_assoc]
theorem cod_eq {α : Type} (K : Int) (X : List Ins → Par α) : bind_ (codP K) X = bind_ (numP 2 lenE) (fun n => bind_ (repP (fun _ => insP n K) n []) X) := by
  unfold codP
  rw [bind_assoc]
theorem chk_le {bs : List Nat} {k : Nat} {f : Nat → Int} {s : St} (hb : Byte bs) (hk : k ≤ 2) : (chkS bs k f s).1 < 65536 := numS_lt hb k hk
theorem chk_good {bs : List Nat} {k : Nat} {f : Nat → Int} {s : St} (h : (chkS bs k f s).2.e = 0) : s.e = 0 := (chk_val h).1
/-- With so many labels, or something is wrong. -/
def Fixed (L : List Nat) (n : Nat) (s : St) : Prop := s.e = 0 → L.length = n

section
variable {w : World} {r : Nat} {a : Option Addr} {cap : Nat} {bs : List Nat} {s : St}
set_option maxRecDepth 100000 in
set_option maxHeartbeats 8000000 in
theorem config_any (h : RdAt w r a cap bs s) (h0 : s.e = 0 ∧ s.at_ = 0 ∧ s.nx = 0) :
    Calls Tryd.prog 47 #[.pointer (some ⟨r, 0, none⟩)] w (DOut w r a cap bs) := by
  have H := hd h
  have HS : Hid (Stage (wholeC bs) s (bind_ (repP (fun acc => numP 1 (hdF acc)) 5 []) (fun _ => bind_ P2 fin) bs s.nx)) := hd (.inl ⟨h0.1, h0.2.1, by
    rw [whole_eq, h0.2.2]
    unfold hdP
    rw [bind_assoc]
    rfl⟩)
  obtain ⟨G0, hG0⟩ : ∃ G, Hid (w.heap.size = G) := ⟨_, rfl⟩
  have hrG : r < G0 := by rw [← hG0.out]; exact h.lt
  clear h h0
  go_enter Tryd.func47, Tryd.ntmps47
  go_upto_region 2 with fail
  obtain ⟨w1, hw1⟩ : ∃ W, Hid ((w.alloc (.cells #[.slice none 0 0, .slice none 0 0, .int .i64 0, .int .i64 0, .int .i64 0, .int .i64 0, .slice none 0 0] 27)).alloc (.cells #[.slice none 0 0, .slice none 0 0, .int .i64 0, .int .i64 0, .int .i64 0, .int .i64 0, .slice none 0 0] 27) = W) := ⟨_, rfl⟩
  rw [hw1.out, hG0.out]
  have hb1 : Below w.heap.size w w1 := by rw [← hw1.out]; exact ((Below.refl _ w).alloc (Nat.le_refl _) _).alloc (by simp) _
  have HD : Hid (DI w r a cap bs G0 s w1 noC noL) := hd (by
    refine ⟨⟨⟨H.out.below hb1, Mod.of_below _ hb1⟩, ?_, ?_, Nat.le_of_eq hG0.out, by omega⟩, (CfO.none (G0 + 2) w1).own, rfl, by rw [← hw1.out, ← hG0.out]; simp⟩
    · rw [← hw1.out, ← hG0.out, (below_al _ _).block _ (by simp)]
      exact heap_alloc_new w _
    · rw [← hw1.out, ← hG0.out, show w.heap.size + 1 = (w.alloc (.cells #[.slice none 0 0, .slice none 0 0, .int .i64 0, .int .i64 0, .int .i64 0, .int .i64 0, .slice none 0 0] 27)).heap.size by simp]
      exact heap_alloc_new _ _)
  clear hw1 hb1
  have hc := mark_any HD.out.cb.out.1 (wholeC bs) (fun _ => bind_ P2 fin) HS.out
  go_upto_region 3 with (go_at_call 61; refine hc.mono ?_; rintro e w2 ⟨rfl, s1, acc, o1, st1⟩)
  replace HD := hd (HD.out.step H.out hrG o1)
  simp only [p2_eq] at st1
  replace HS := hd (Stage.chk st1)
  clear hc o1 st1
  have hc := int_any HD.out.cb.out.1 1 ⟨by omega, by omega⟩ 1 8 1 3 (by omega) (by decide) (by decide)
  rw [int_cnt 8] at hc
  have hnb := chk_le (f := fun n : Nat => cntE 8 n) (s := s1) H.out.byte (k := 1) (by omega)
  go_upto_block 0 with (go_at_call 62; refine hc.mono ?_; rintro e w3 ⟨rfl, o1⟩)
  replace HD := hd (HD.out.step H.out hrG o1)
  clear hc o1
  generalize (chkS bs 1 (fun n : Nat => cntE 8 n) s1).1 = n at *
  generalize (chkS bs 1 (fun n : Nat => cntE 8 n) s1).2 = sa at *
  go_cut [5, 6, 7] (fun v5 v6 v7 wy => ∃ L la lc s', Hid (DI w r a cap bs G0 s' wy { noC with labels := L } { noL with la := la, lc := lc } ∧ Stage (wholeC bs) s' (bind_ (P3 L) fin bs s'.nx) ∧ Fixed L n s' ∧ L.length ≤ n))
  case first =>
    go_wp2_with fail
    go_loopg [5, 6, 7, 19, 20, 21, 22, 23, 24, 25, 26, 27, 28, 29, 30, 31, 32, 33, 34, 35, 36, 37, 38, 39, 40, 41, 42, 43, 44, 45, 46, 47, 48, 49, 50, 51, 52, 53, 54, 55, 56, 57, 58, 59, 60, 61, 62, 63, 64, 65, 66, 67, 68, 69, 70, 71, 72, 73, 74, 75, 76, 77, 78, 79, 80, 81, 82, 83, 84, 85, 86] n (fun g v5 v6 v7 v19 v20 v21 v22 v23 v24 v25 v26 v27 v28 v29 v30 v31 v32 v33 v34 v35 v36 v37 v38 v39 v40 v41 v42 v43 v44 v45 v46 v47 v48 v49 v50 v51 v52 v53 v54 v55 v56 v57 v58 v59 v60 v61 v62 v63 v64 v65 v66 v67 v68 v69 v70 v71 v72 v73 v74 v75 v76 v77 v78 v79 v80 v81 v82 v83 v84 v85 v86 wr => ∃ (L : List Nat) (len : Nat) (la : Option Addr) (lc : Nat) (s' : St), v5 = .int .i64 (len : Int) ∧ len + g = n ∧ Hid (L.length = len) ∧ Hid (DI w r a cap bs G0 s' wr { noC with labels := L } { noL with la := la, lc := lc } ∧ Stage (wholeC bs) s' (bind_ (repP (fun acc => numP 8 (labE acc)) (n - len) L) (fun L => bind_ (P3 L) fin) bs s'.nx)))
    case atStart => exact ⟨[], 0, none, 0, sa, by go_num, by omega, hd rfl, hd ⟨HD.out, HS.out⟩⟩
    case round =>
      clear HD HS
      obtain ⟨L, len, la, lc, s', rfl, hlen, HL, HW⟩ := hrel
      have k2 := HW.out.1.cb.out.1.cells.2.2.1
      by_cases h0 : gk = 0
      · subst h0
        have hge : decide ((len : Int) < (n : Int)) = false := by simp; omega
        have hge' : (n : Int) ≤ (len : Int) := by omega
        go_wp2_with fail
        go_meet
        refine ⟨L, la, lc, s', hd ⟨HW.out.1, ?_, fun _ => by have := HL.out; omega, by have := HL.out; omega⟩⟩
        have h1 := HW.out.2
        rw [show n - len = 0 by omega] at h1
        exact h1
      · have hlt : (len : Int) < (n : Int) := by omega
        by_cases hz : s'.e = 0
        · rw [hz] at k2
          have k1 := HW.out.1.cb.out.1.cells.2.1
          have hn := num_any HW.out.1.cb.out.1 8 ⟨by omega, by omega⟩
          have hu := numS_lt8 (s := s') H.out.byte
          obtain ⟨SF, hSF⟩ : ∃ SF, Hid ((chkS bs 8 (labE L) s').2 = SF) := ⟨_, rfl⟩
          have HP : Hid (∀ W, ROut wr r a cap bs SF W → ∃ a' c' W', (∀ ty, (Builtin.append_ #[23, 23] ty #[.slice la len lc, .slice (some ⟨W.heap.size, 0, none⟩) 1 1]).run Tryd.prog (W.alloc (.cells #[.int .u64 ((numS bs 8 s').1 : Nat)] 65)) = .ok (.slice a' (len + 1) c') W') ∧ (W'.cell? ⟨G0 + 1, 0, none⟩ = some (.slice la len lc) ∧ W'.frozen? ⟨G0 + 1, 0, none⟩ = false) ∧ DI w r a cap bs G0 SF (W'.setCell ⟨G0 + 1, 0, none⟩ (.slice a' (len + 1) c')) { noC with labels := L ++ [(numS bs 8 s').1] } { noL with la := a', lc := c' } ∧ Stage (wholeC bs) SF (bind_ (repP (fun acc => numP 8 (labE acc)) (n - (len + 1)) (L ++ [(numS bs 8 s').1])) (fun L => bind_ (P3 L) fin) bs SF.nx)) := hd (by
            intro W o
            have hl := HL.out
            obtain ⟨a', c', W', e1, e2, e3⟩ := (HW.out.1.step H.out hrG o).pushL H.out hrG (by simp only; omega) (numS bs 8 s').1
            simp only [hl] at e1 e2 e3
            refine ⟨a', c', W', e1, e2, e3, ?_⟩
            have h1 := HW.out.2
            rw [show n - len = (n - (len + 1)) + 1 by omega, rep_bind] at h1
            have h2 := Stage.chk h1
            rw [hSF.out] at h2
            exact h2)
          have hp1 : Hid ((numS bs 8 s').2.e = 0 → (numS bs 8 s').2.fr = s'.nx) := hd numS_fr
          unfold chkS at hSF
          simp only at hSF
          have hS2 : Hid ((numS bs 8 s').2 = (numS bs 8 s').2) := hd rfl
          generalize (numS bs 8 s').1 = v at *
          generalize (numS bs 8 s').2 = s2 at *
          clear h0 hz
          by_cases he : s2.e = 0
          · replace he := hd he
            by_cases hl0 : len = 0
            · have d1 : decide ((0 : Int) < (len : Int)) = false := by simp; omega
              have d1n : decide (0 < len) = false := by simp; omega
              have d1' : (len : Int) ≤ 0 := by omega
              replace hl0 := hd hl0
              have HQ : Hid (SF = s2) := hd (by
                rw [← hSF.out, show labE L v = 0 by unfold labE; rw [if_pos (by have := HL.out; have := hl0.out; omega)]]
                exact failS_ok)
              go_upto_region 9 with (go_at_call 63; refine hn.mono ?_; rintro e w4 ⟨rfl, o4⟩; replace o4 := hd o4)
              have D1 := hd (HW.out.1.step H.out hrG o4.out)
              have kl := D1.out.cells.1
              have k2 := D1.out.cb.out.1.cells.2.2.1
              simp only [HL.out] at kl
              rw [he.out] at k2
              obtain ⟨a', c', w5, hap, ⟨kc, kf⟩, HN⟩ := HP.out w4 (by rw [HQ.out]; exact o4.out)
              replace hap := hd hap
              clear HP HW hn HQ o4 D1
              go_wp2_with (at_builtin; refine wpList_append_run rfl _ _ _ rfl _ _ _ _ rfl rfl hap.out ?_; clear hap)
              go_roundg (gk - 1)
              case rel => exact ⟨L ++ [v], len + 1, a', c', _, by go_num, by omega, hd (by rw [← HL.out]; simp), hd HN⟩
              case measure => omega
            · obtain ⟨x, hxx⟩ : ∃ x, Hid (L.getD (len - 1) 0 = x) := ⟨_, rfl⟩
              rcases Nat.lt_trichotomy v x with hv | hv | hv
              · have HQ : Hid (SF = failS s2 7 s'.nx) := hd (by
                  rw [← hSF.out, show labE L v = 7 by unfold labE; rw [if_neg (by have := HL.out; omega), HL.out, hxx.out, if_neg (by omega), if_pos hv], ← hp1.out he.out, hS2.out])
                have t1 : ((v : Int) == (x : Int)) = false := by simp; omega
                have t2 : (v : Int) < (x : Int) := by omega
                go_upto_region 9 with (go_at_call 63; refine hn.mono ?_; rintro e w4 ⟨rfl, o4⟩; replace o4 := hd o4)
                have D1 := hd (HW.out.1.step H.out hrG o4.out)
                have kl := D1.out.cells.1
                have k2 := D1.out.cb.out.1.cells.2.2.1
                simp only [HL.out] at kl
                rw [he.out] at k2
                obtain ⟨gl, rfl, hx⟩ := D1.out.own.head.cell (len - 1) (by simp only [HL.out]; omega)
                have hx' : w4.cell? ⟨gl, len - 1, none⟩ = some (.int .u64 (x : Int)) := by
                  rw [← hxx.out]
                  exact hx.trans (labC_at L (len - 1) (by have := HL.out; omega))
                clear hx
                have hf := fail_any D1.out.cb.out.1 7 s'.nx (by decide)
                go_upto_region 13 with (go_at_call 48; refine hf.mono ?_; rintro e w6 ⟨rfl, o6⟩; replace o6 := hd o6)
                have D2 := hd (D1.out.step H.out hrG o6.out)
                have kl2 := D2.out.cells.1
                have k22 := D2.out.cb.out.1.cells.2.2.1
                simp only [HL.out] at kl2
                rw [failS_set he.out (by decide)] at k22
                simp only at k22
                obtain ⟨a', c', w5, hap, ⟨kc, kf⟩, HN⟩ := HP.out w6 (by rw [HQ.out]; exact o4.out.trans o6.out)
                replace hap := hd hap
                clear HP HW hn HQ o4 D1 D2 hf o6 kl k2
                go_wp2_with (at_builtin; refine wpList_append_run rfl _ _ _ rfl _ _ _ _ rfl rfl hap.out ?_; clear hap)
                go_roundg (gk - 1)
                case rel => exact ⟨L ++ [v], len + 1, a', c', _, by go_num, by omega, hd (by rw [← HL.out]; simp), hd HN⟩
                case measure => omega
              · have HQ : Hid (SF = failS s2 8 s'.nx) := hd (by
                  rw [← hSF.out, show labE L v = 8 by unfold labE; rw [if_neg (by have := HL.out; omega), HL.out, hxx.out, if_pos hv], ← hp1.out he.out, hS2.out])
                have t1 : ((v : Int) == (x : Int)) = true := by simp; omega
                replace hv := hd hv
                go_upto_region 9 with (go_at_call 63; refine hn.mono ?_; rintro e w4 ⟨rfl, o4⟩; replace o4 := hd o4)
                have D1 := hd (HW.out.1.step H.out hrG o4.out)
                have kl := D1.out.cells.1
                have k2 := D1.out.cb.out.1.cells.2.2.1
                simp only [HL.out] at kl
                rw [he.out] at k2
                obtain ⟨gl, rfl, hx⟩ := D1.out.own.head.cell (len - 1) (by simp only [HL.out]; omega)
                have hx' : w4.cell? ⟨gl, len - 1, none⟩ = some (.int .u64 (x : Int)) := by
                  rw [← hxx.out]
                  exact hx.trans (labC_at L (len - 1) (by have := HL.out; omega))
                clear hx
                have hf := fail_any D1.out.cb.out.1 8 s'.nx (by decide)
                go_upto_region 11 with (go_at_call 48; refine hf.mono ?_; rintro e w6 ⟨rfl, o6⟩; replace o6 := hd o6)
                have D2 := hd (D1.out.step H.out hrG o6.out)
                have kl2 := D2.out.cells.1
                have k22 := D2.out.cb.out.1.cells.2.2.1
                simp only [HL.out] at kl2
                rw [failS_set he.out (by decide)] at k22
                simp only at k22
                obtain ⟨a', c', w5, hap, ⟨kc, kf⟩, HN⟩ := HP.out w6 (by rw [HQ.out]; exact o4.out.trans o6.out)
                replace hap := hd hap
                clear HP HW hn HQ o4 D1 D2 hf o6 kl k2
                go_wp2_with (at_builtin; refine wpList_append_run rfl _ _ _ rfl _ _ _ _ rfl rfl hap.out ?_; clear hap)
                go_roundg (gk - 1)
                case rel => exact ⟨L ++ [v], len + 1, a', c', _, by go_num, by omega, hd (by rw [← HL.out]; simp), hd HN⟩
                case measure => omega
              · have HQ : Hid (SF = s2) := hd (by
                  rw [← hSF.out, show labE L v = 0 by unfold labE; rw [if_neg (by have := HL.out; omega), HL.out, hxx.out, if_neg (by omega), if_neg (by omega)]]
                  exact failS_ok)
                have t1 : ((v : Int) == (x : Int)) = false := by simp; omega
                have t2 : decide ((v : Int) < (x : Int)) = false := by simp; omega
                have t3 : (x : Int) ≤ (v : Int) := by omega
                go_upto_region 9 with (go_at_call 63; refine hn.mono ?_; rintro e w4 ⟨rfl, o4⟩; replace o4 := hd o4)
                have D1 := hd (HW.out.1.step H.out hrG o4.out)
                have kl := D1.out.cells.1
                have k2 := D1.out.cb.out.1.cells.2.2.1
                simp only [HL.out] at kl
                rw [he.out] at k2
                obtain ⟨gl, rfl, hx⟩ := D1.out.own.head.cell (len - 1) (by simp only [HL.out]; omega)
                have hx' : w4.cell? ⟨gl, len - 1, none⟩ = some (.int .u64 (x : Int)) := by
                  rw [← hxx.out]
                  exact hx.trans (labC_at L (len - 1) (by have := HL.out; omega))
                clear hx
                obtain ⟨a', c', w5, hap, ⟨kc, kf⟩, HN⟩ := HP.out w4 (by rw [HQ.out]; exact o4.out)
                replace hap := hd hap
                clear HP HW hn HQ o4 D1
                go_wp2_with (at_builtin; refine wpList_append_run rfl _ _ _ rfl _ _ _ _ rfl rfl hap.out ?_; clear hap)
                go_roundg (gk - 1)
                case rel => exact ⟨L ++ [v], len + 1, a', c', _, by go_num, by omega, hd (by rw [← HL.out]; simp), hd HN⟩
                case measure => omega
          · have d0 : (s2.e == 0) = false := by simpa using he
            replace he := hd he
            have HQ : Hid (SF = s2) := hd (by rw [← hSF.out]; exact failS_bad he.out)
            go_upto_region 9 with (go_at_call 63; refine hn.mono ?_; rintro e w4 ⟨rfl, o4⟩; replace o4 := hd o4)
            have D1 := hd (HW.out.1.step H.out hrG o4.out)
            have kl := D1.out.cells.1
            have k2 := D1.out.cb.out.1.cells.2.2.1
            simp only [HL.out] at kl
            obtain ⟨a', c', w5, hap, ⟨kc, kf⟩, HN⟩ := HP.out w4 (by rw [HQ.out]; exact o4.out)
            replace hap := hd hap
            clear HP HW hn HQ o4 D1
            go_wp2_with (at_builtin; refine wpList_append_run rfl _ _ _ rfl _ _ _ _ rfl rfl hap.out ?_; clear hap)
            go_roundg (gk - 1)
            case rel => exact ⟨L ++ [v], len + 1, a', c', _, by go_num, by omega, hd (by rw [← HL.out]; simp), hd HN⟩
            case measure => omega
        · have d0 : (s'.e == 0) = false := by simpa using hz
          have HZ := hd hz
          clear hz
          go_wp2_with fail
          go_meet
          exact ⟨L, la, lc, s', hd ⟨HW.out.1, .inr ⟨HZ.out, HW.out.2.bad HZ.out⟩, fun e => absurd e HZ.out, by have := HL.out; omega⟩⟩
  case rest =>
  obtain ⟨L, la, lc, s', HC⟩ := hcut
  clear HS HD
  have st := HC.out.2.1
  rw [p3_eq] at st
  have HS := hd (Stage.chk st)
  have HD := hd HC.out.1
  have HX := hd HC.out.2.2
  clear HC st
  have hc := int_any HD.out.cb.out.1 1 ⟨by omega, by omega⟩ 1 64 1 3 (by omega) (by decide) (by decide)
  rw [int_cnt 64] at hc
  have hmb := chk_le (f := fun n : Nat => cntE 64 n) (s := s') H.out.byte (k := 1) (by omega)
  go_upto_block 2 with (go_at_call 62; refine hc.mono ?_; rintro e w4 ⟨rfl, o1⟩)
  replace HD := hd (HD.out.step H.out hrG o1)
  have HF : Hid (Fixed L n (chkS bs 1 (fun n : Nat => cntE 64 n) s').2) := hd (fun e => HX.out.1 (chk_good e))
  clear hc o1
  generalize (chkS bs 1 (fun n : Nat => cntE 64 n) s').1 = m at *
  generalize (chkS bs 1 (fun n : Nat => cntE 64 n) s').2 = sb at *
  clear HX s'
  go_cut [9] (fun v9 wy => ∃ (T : List Nat) (ta : Option Addr) (tc : Nat) (s' : St), Hid (DI w r a cap bs G0 s' wy { noC with labels := L, table := T.map fun x : Nat => (x : Int) } { noL with la := la, lc := lc, ta := ta, tc := tc } ∧ Stage (wholeC bs) s' (bind_ (P4 L T) fin bs s'.nx) ∧ Fixed L n s'))
  case first =>
    go_wp2_with fail
    go_loopg [9, 89, 90, 91, 92, 93, 94, 95, 96, 97, 98, 99, 100, 101, 102, 103, 104, 105, 106, 107, 108, 109] m (fun g v9 v89 v90 v91 v92 v93 v94 v95 v96 v97 v98 v99 v100 v101 v102 v103 v104 v105 v106 v107 v108 v109 wr => ∃ (T : List Nat) (len : Nat) (ta : Option Addr) (tc : Nat) (s' : St), v9 = .int .i64 (len : Int) ∧ len + g = m ∧ Hid (T.length = len) ∧ Hid (DI w r a cap bs G0 s' wr { noC with labels := L, table := T.map fun x : Nat => (x : Int) } { noL with la := la, lc := lc, ta := ta, tc := tc } ∧ Stage (wholeC bs) s' (bind_ (repP (fun _ => numP 1 fun n => rngE 0 ((L.length : Int) - 1) n) (m - len) T) (fun T => bind_ (P4 L T) fin) bs s'.nx) ∧ Fixed L n s'))
    case atStart => exact ⟨[], 0, none, 0, sb, by go_num, by omega, hd rfl, hd ⟨HD.out, HS.out, HF.out⟩⟩
    case round =>
      clear HD HS HF
      obtain ⟨T, len, ta, tc, s', rfl, hlen, HL, HW⟩ := hrel
      have k2 := HW.out.1.cb.out.1.cells.2.2.1
      by_cases h0 : gk = 0
      · subst h0
        have hge : decide ((len : Int) < (m : Int)) = false := by simp; omega
        have hge' : (m : Int) ≤ (len : Int) := by omega
        go_wp2_with fail
        go_meet
        refine ⟨T, ta, tc, s', hd ⟨HW.out.1, ?_, HW.out.2.2⟩⟩
        have h1 := HW.out.2.1
        rw [show m - len = 0 by omega] at h1
        exact h1
      · have hlt : (len : Int) < (m : Int) := by omega
        by_cases hz : s'.e = 0
        · rw [hz] at k2
          have hLn : Hid (L.length = n) := hd (HW.out.2.2 hz)
          have kl := HW.out.1.cells.2.1
          simp only [List.length_map, HL.out] at kl
          have hint := int_any (HW.out.1.below (below_draw wr 1)).cb.out.1 1 ⟨by omega, by omega⟩ 0 ((n : Int) - 1) 2 2 (by omega) (by decide) (by decide)
          rw [int_rng] at hint
          have HP : Hid (∀ W, ROut (wr.drewN 1) r a cap bs (chkS bs 1 (fun k : Nat => rngE 0 ((n : Int) - 1) k) s').2 W → W.cell? ⟨G0 + 1, 1, none⟩ = some (.slice ta len tc) ∧ ∃ a' c' W', (∀ ty, (Builtin.append_ #[24, 24] ty #[.slice ta len tc, .slice (some ⟨W.heap.size, 0, none⟩) 1 1]).run Tryd.prog (W.alloc (.cells #[.int .i64 ((chkS bs 1 (fun k : Nat => rngE 0 ((n : Int) - 1) k) s').1 : Nat)] 3)) = .ok (.slice a' (len + 1) c') W') ∧ (W'.cell? ⟨G0 + 1, 1, none⟩ = some (.slice ta len tc) ∧ W'.frozen? ⟨G0 + 1, 1, none⟩ = false) ∧ (∃ s'', DI w r a cap bs G0 s'' (W'.setCell ⟨G0 + 1, 1, none⟩ (.slice a' (len + 1) c')) { noC with labels := L, table := (T ++ [(chkS bs 1 (fun k : Nat => rngE 0 ((n : Int) - 1) k) s').1]).map fun x : Nat => (x : Int) } { noL with la := la, lc := lc, ta := a', tc := c' } ∧ Stage (wholeC bs) s'' (bind_ (repP (fun _ => numP 1 fun n => rngE 0 ((L.length : Int) - 1) n) (m - (len + 1)) (T ++ [(chkS bs 1 (fun k : Nat => rngE 0 ((n : Int) - 1) k) s').1])) (fun T => bind_ (P4 L T) fin) bs s''.nx) ∧ Fixed L n s'')) := hd (by
            intro W o
            have hl := HL.out
            have hD := (HW.out.1.below (below_draw wr 1)).step H.out hrG o
            refine ⟨?_, ?_⟩
            · have := hD.cells.2.1
              simp only [List.length_map, hl] at this
              exact this
            · obtain ⟨a', c', W', e1, e2, e3⟩ := hD.pushT H.out hrG (by simp only [List.length_map]; omega) ((chkS bs 1 (fun k : Nat => rngE 0 ((n : Int) - 1) k) s').1 : Nat)
              simp only [List.length_map, hl] at e1 e2 e3
              refine ⟨a', c', W', e1, e2, (chkS bs 1 (fun k : Nat => rngE 0 ((n : Int) - 1) k) s').2, ?_, ?_, fun _ => hLn.out⟩
              · rw [List.map_append]
                exact e3
              · have h1 := HW.out.2.1
                rw [show m - len = (m - (len + 1)) + 1 by omega, rep_bind] at h1
                have h2 := Stage.chk h1
                simp only [hLn.out] at h2 ⊢
                exact h2)
          clear h0 hz HW
          generalize (chkS bs 1 (fun k : Nat => rngE 0 ((n : Int) - 1) k) s').1 = v at *
          generalize (chkS bs 1 (fun k : Nat => rngE 0 ((n : Int) - 1) k) s').2 = SF at *
          have hint' : Calls Tryd.prog 62 #[.pointer (some ⟨r, 0, none⟩), .int .i64 1, .int .i64 0, .int .i64 (IntKind.i64.wrap ((n : Int) - 1)), .int .i64 2, .int .i64 2] wr.drew fun e w' => e = .returned (.int .i64 (v : Int)) ∧ ROut (wr.drewN 1) r a cap bs SF w' := by
            rw [show IntKind.i64.wrap ((n : Int) - 1) = (n : Int) - 1 by rw [IntKind.wrap_i64]; omega]
            exact hint
          clear hint
          have kl' : wr.drew.cell? ⟨G0 + 1, 1, none⟩ = some (.slice ta len tc) := kl
          go_upto_region 18 with fail
          go_wp2_with fail
          go_region_law
            (first
              | (go_simp; with_reducible refine hint'.mono ?_; rintro e w5 ⟨rfl, o5⟩
                 obtain ⟨kl5, a', c', w6, hap, ⟨kc, kf⟩, s'', HN⟩ := HP.out w5 o5
                 replace hap := hd hap
                 replace HN := hd HN
                 have kl6 : (w5.alloc (.cells #[.int .i64 (v : Int)] 3)).cell? ⟨G0 + 1, 1, none⟩ = some (.slice ta len tc) := ((below_al w5 _).cell (World.block_lt_of_cell? w5 _ kl5)).trans kl5
                 clear o5)
              | (refine step_append_run (by rfl) _ _ _ (by rfl) _ _ _ _ (by rfl) (by rfl) hap.out ?_; clear hap))
          all_goals go_wp2_with fail
          all_goals go_roundg (gk - 1)
          all_goals first | omega | exact ⟨T ++ [v], len + 1, a', c', s'', by go_num, by omega, hd (by rw [← HL.out]; simp), HN⟩
        · have d0 : (s'.e == 0) = false := by simpa using hz
          have HZ := hd hz
          clear hz
          go_wp2_with fail
          go_meet
          exact ⟨T, ta, tc, s', hd ⟨HW.out.1, .inr ⟨HZ.out, HW.out.2.1.bad HZ.out⟩, fun e => absurd e HZ.out⟩⟩
  case rest =>
  clear HS HD HF hmb
  obtain ⟨T, ta, tc, sc0, HC⟩ := hcut
  have HS : Hid (Stage (wholeC bs) sc0 (bind_ (P4 L T) fin bs sc0.nx)) := hd HC.out.2.1
  have HD := hd HC.out.1
  have HF := hd HC.out.2.2
  clear HC
  have st := HS.out
  rw [p4_eq] at st
  replace HS := hd (Stage.chk st)
  clear st
  have hc := int_any HD.out.cb.out.1 2 ⟨by omega, by omega⟩ 1 256 2 2 (by omega) (by decide) (by decide)
  rw [int_rng] at hc
  go_upto_region 20 with (go_at_call 62; refine hc.mono ?_; rintro e wa0 ⟨rfl, o7⟩; have D7 := hd (HD.out.step H.out hrG o7); have kc := D7.out.cells.2.2.1; have kf := D7.out.cb.free 2; clear o7)
  replace HF : Hid (Fixed L n (chkS bs 2 (fun k : Nat => rngE 1 256 k) sc0).2) := hd (fun e => HF.out (chk_good e))
  generalize (chkS bs 2 (fun k : Nat => rngE 1 256 k) sc0).1 = f at *
  generalize (chkS bs 2 (fun k : Nat => rngE 1 256 k) sc0).2 = sc1 at *
  clear hc HD kc kf
  obtain ⟨wb0, hwb⟩ : ∃ W, Hid (wa0.setCell ⟨G0 + 1, 2, none⟩ (.int .i64 (f : Int)) = W) := ⟨_, rfl⟩
  rw [hwb.out]
  have HD : Hid (DI w r a cap bs G0 sc1 wb0 { noC with labels := L, table := T.map fun x : Nat => (x : Int), fuel := (f : Int) } { noL with la := la, lc := lc, ta := ta, tc := tc }) := hd (by rw [← hwb.out]; exact D7.out.num H.out 2 _ _ rfl rfl rfl)
  clear hwb D7
  have st := HS.out
  rw [p5_eq] at st
  replace HS := hd (Stage.chk st)
  clear st
  have hc := int_any HD.out.cb.out.1 1 ⟨by omega, by omega⟩ 1 64 2 2 (by omega) (by decide) (by decide)
  rw [int_rng] at hc
  go_upto_region 21 with (go_at_call 62; refine hc.mono ?_; rintro e wa1 ⟨rfl, o7⟩; have D7 := hd (HD.out.step H.out hrG o7); have kc := D7.out.cells.2.2.2.1; have kf := D7.out.cb.free 3; clear o7)
  replace HF : Hid (Fixed L n (chkS bs 1 (fun k : Nat => rngE 1 64 k) sc1).2) := hd (fun e => HF.out (chk_good e))
  generalize (chkS bs 1 (fun k : Nat => rngE 1 64 k) sc1).1 = g at *
  generalize (chkS bs 1 (fun k : Nat => rngE 1 64 k) sc1).2 = sc2 at *
  clear hc HD kc kf
  obtain ⟨wb1, hwb⟩ : ∃ W, Hid (wa1.setCell ⟨G0 + 1, 3, none⟩ (.int .i64 (g : Int)) = W) := ⟨_, rfl⟩
  rw [hwb.out]
  have HD : Hid (DI w r a cap bs G0 sc2 wb1 { noC with labels := L, table := T.map fun x : Nat => (x : Int), fuel := (f : Int), lane := (g : Int) } { noL with la := la, lc := lc, ta := ta, tc := tc }) := hd (by rw [← hwb.out]; exact D7.out.num H.out 3 _ _ rfl rfl rfl)
  clear hwb D7
  have st := HS.out
  rw [p6_eq] at st
  replace HS := hd (Stage.chk st)
  clear st
  have hc := int_any HD.out.cb.out.1 1 ⟨by omega, by omega⟩ 0 8 2 2 (by omega) (by decide) (by decide)
  rw [int_rng] at hc
  go_upto_region 22 with (go_at_call 62; refine hc.mono ?_; rintro e wa2 ⟨rfl, o7⟩; have D7 := hd (HD.out.step H.out hrG o7); have kc := D7.out.cells.2.2.2.2.1; have kf := D7.out.cb.free 4; clear o7)
  replace HF : Hid (Fixed L n (chkS bs 1 (fun k : Nat => rngE 0 8 k) sc2).2) := hd (fun e => HF.out (chk_good e))
  generalize (chkS bs 1 (fun k : Nat => rngE 0 8 k) sc2).1 = h at *
  generalize (chkS bs 1 (fun k : Nat => rngE 0 8 k) sc2).2 = sc3 at *
  clear hc HD kc kf
  obtain ⟨wb2, hwb⟩ : ∃ W, Hid (wa2.setCell ⟨G0 + 1, 4, none⟩ (.int .i64 (h : Int)) = W) := ⟨_, rfl⟩
  rw [hwb.out]
  have HD : Hid (DI w r a cap bs G0 sc3 wb2 { noC with labels := L, table := T.map fun x : Nat => (x : Int), fuel := (f : Int), lane := (g : Int), locks := (h : Int) } { noL with la := la, lc := lc, ta := ta, tc := tc }) := hd (by rw [← hwb.out]; exact D7.out.num H.out 4 _ _ rfl rfl rfl)
  clear hwb D7
  have st := HS.out
  rw [p7_eq] at st
  replace HS := hd (Stage.chk st)
  clear st
  have hc := int_any HD.out.cb.out.1 2 ⟨by omega, by omega⟩ 0 4096 2 2 (by omega) (by decide) (by decide)
  rw [int_rng] at hc
  go_upto_region 23 with (go_at_call 62; refine hc.mono ?_; rintro e wa3 ⟨rfl, o7⟩; have D7 := hd (HD.out.step H.out hrG o7); have kc := D7.out.cells.2.2.2.2.2.1; have kf := D7.out.cb.free 5; clear o7)
  replace HF : Hid (Fixed L n (chkS bs 2 (fun k : Nat => rngE 0 4096 k) sc3).2) := hd (fun e => HF.out (chk_good e))
  generalize (chkS bs 2 (fun k : Nat => rngE 0 4096 k) sc3).1 = i at *
  generalize (chkS bs 2 (fun k : Nat => rngE 0 4096 k) sc3).2 = sc4 at *
  clear hc HD kc kf
  obtain ⟨wb3, hwb⟩ : ∃ W, Hid (wa3.setCell ⟨G0 + 1, 5, none⟩ (.int .i64 (i : Int)) = W) := ⟨_, rfl⟩
  rw [hwb.out]
  have HD : Hid (DI w r a cap bs G0 sc4 wb3 { noC with labels := L, table := T.map fun x : Nat => (x : Int), fuel := (f : Int), lane := (g : Int), locks := (h : Int), log := (i : Int) } { noL with la := la, lc := lc, ta := ta, tc := tc }) := hd (by rw [← hwb.out]; exact D7.out.num H.out 5 _ _ rfl rfl rfl)
  clear hwb D7
  have st := HS.out
  rw [p8_eq] at st
  replace HS := hd (Stage.chk st)
  clear st
  have hc := int_any HD.out.cb.out.1 1 ⟨by omega, by omega⟩ 1 32 1 3 (by omega) (by decide) (by decide)
  rw [int_cnt 32] at hc
  have hqb := chk_le (f := fun n : Nat => cntE 32 n) (s := sc4) H.out.byte (k := 1) (by omega)
  go_upto_block 4 with (go_at_call 62; refine hc.mono ?_; rintro e w4' ⟨rfl, o1⟩)
  replace HF : Hid (Fixed L n (chkS bs 1 (fun n : Nat => cntE 32 n) sc4).2) := hd (fun e => HF.out (chk_good e))
  replace HD := hd (HD.out.step H.out hrG o1)
  clear hc o1
  generalize (chkS bs 1 (fun n : Nat => cntE 32 n) sc4).1 = q at *
  generalize (chkS bs 1 (fun n : Nat => cntE 32 n) sc4).2 = sd at *
  go_cut [11, 12, 13] (fun v11 v12 v13 wy => ∃ ms pa pc s', Hid (DI w r a cap bs G0 s' wy (mkC L T f g h i (psOf ms)) ⟨la, lc, ta, tc, pa, pc, ms⟩ ∧ Stage (wholeC bs) s' (endP L T f g h i (psOf ms) bs s'.nx)))
  case first =>
    go_wp2_with fail
    go_loopg [11, 12, 13, 124, 125, 126, 127, 128, 129, 130, 131, 132, 133, 134, 135, 136, 137, 138, 139, 140, 141, 142, 143, 144, 145, 146, 147, 148, 149, 150, 151, 152, 153] q (fun gg v11 v12 v13 v124 v125 v126 v127 v128 v129 v130 v131 v132 v133 v134 v135 v136 v137 v138 v139 v140 v141 v142 v143 v144 v145 v146 v147 v148 v149 v150 v151 v152 v153 wr => ∃ (ms : List PrM) (len : Nat) (pa : Option Addr) (pc : Nat) (s' : St), v11 = .int .i64 (len : Int) ∧ len + gg = q ∧ Hid (ms.length = len) ∧ Hid (DI w r a cap bs G0 s' wr (mkC L T f g h i (psOf ms)) ⟨la, lc, ta, tc, pa, pc, ms⟩ ∧ Stage (wholeC bs) s' (bind_ (repP (fun _ => prP L.length h) (q - len) (psOf ms)) (endP L T f g h i) bs s'.nx) ∧ Fixed L n s'))
    case atStart => exact ⟨[], 0, none, 0, sd, by go_num, by omega, hd rfl, hd ⟨HD.out, HS.out, HF.out⟩⟩
    case round =>
      clear HD HS HF
      obtain ⟨ms, len, pa, pc, s', rfl, hlen, HL, HW⟩ := hrel
      have k2 := HW.out.1.cb.out.1.cells.2.2.1
      by_cases h0 : gk = 0
      · subst h0
        have hge : decide ((len : Int) < (q : Int)) = false := by simp; omega
        have hge' : (q : Int) ≤ (len : Int) := by omega
        go_wp2_with fail
        go_meet
        refine ⟨ms, pa, pc, s', hd ⟨HW.out.1, ?_⟩⟩
        have h1 := HW.out.2.1
        rw [show q - len = 0 by omega] at h1
        exact h1
      · have hlt : (len : Int) < (q : Int) := by omega
        by_cases hz : s'.e = 0
        · rw [hz] at k2
          have hLn : Hid (L.length = n) := hd (HW.out.2.2 hz)
          have hint := int_any HW.out.1.cb.out.1 1 ⟨by omega, by omega⟩ 0 ((n : Int) - 1) 2 2 (by omega) (by decide) (by decide)
          rw [int_rng] at hint
          have st : Stage (wholeC bs) s' (bind_ (numP 1 fun k => rngE 0 ((n : Int) - 1) k) (fun part => bind_ (codP h) (fun l => bind_ (repP (fun _ => prP L.length h) (q - (len + 1)) (psOf ms ++ [(⟨(part : Int), l⟩ : Pr)])) (endP L T f g h i))) bs s'.nx) := by
            have h1 := HW.out.2.1
            rw [show q - len = (q - (len + 1)) + 1 by omega, rep_eq, hLn.out] at h1
            rw [hLn.out]
            exact h1
          have st2 := Stage.chk st
          clear st
          clear h0 hz
          go_upto_region 28 with (go_at_call 62; refine hint.mono ?_; rintro e w5 ⟨rfl, o5⟩; have D5 := hd (HW.out.1.step H.out hrG o5); clear o5)
          generalize (chkS bs 1 (fun k : Nat => rngE 0 ((n : Int) - 1) k) s').1 = part at *
          generalize (chkS bs 1 (fun k : Nat => rngE 0 ((n : Int) - 1) k) s').2 = sx at *
          clear hint HW
          have hint := int_any D5.out.cb.out.1 2 ⟨by omega, by omega⟩ 0 256 3 3 (by omega) (by decide) (by decide)
          rw [int_len] at hint
          rw [cod_eq] at st2
          have st3 := Stage.chk st2
          clear st2
          have hkb := chk_le (f := lenE) (s := sx) H.out.byte (k := 2) (by omega)
          go_upto_region 29 with (go_at_call 62; refine hint.mono ?_; rintro e w6 ⟨rfl, o6⟩; have D6 := hd (D5.out.step H.out hrG o6); clear o6)
          generalize (chkS bs 2 lenE sx).1 = kk at *
          generalize (chkS bs 2 lenE sx).2 = sy at *
          clear hint D5
          have kl := D6.out.cells.2.2.2.2.2.2
          have kh := D6.out.cells.2.2.2.2.1
          simp only [mkC, psOf_len, HL.out] at kl kh
          have hcode : Calls Tryd.prog 64 #[.pointer (some ⟨r, 0, none⟩), .int .i64 (kk : Int), .int .i64 (h : Int)] w6.drew fun e w' => ∃ a1 c1 l, e = .returned (.slice a1 (List.length l) c1) ∧ CoO (wholeC bs) (fun l => bind_ (repP (fun _ => prP L.length h) (q - (len + 1)) (psOf ms ++ [(⟨(part : Int), l⟩ : Pr)])) (endP L T f g h i)) (w6.drewN 1) r a cap bs kk a1 c1 l w' := code_any (D6.out.below (below_draw w6 1)).cb.out.1 (wholeC bs) (fun l => bind_ (repP (fun _ => prP L.length h) (q - (len + 1)) (psOf ms ++ [(⟨(part : Int), l⟩ : Pr)])) (endP L T f g h i)) (h : Int) kk (by omega) st3
          have HP : Hid (∀ W a1 c1 l, CoO (wholeC bs) (fun l => bind_ (repP (fun _ => prP L.length h) (q - (len + 1)) (psOf ms ++ [(⟨(part : Int), l⟩ : Pr)])) (endP L T f g h i)) (w6.drewN 1) r a cap bs kk a1 c1 l W → W.cell? ⟨G0 + 1, 6, none⟩ = some (.slice pa len pc) ∧ ∃ a' c' W', (∀ ty, (Builtin.append_ #[25, 25] ty #[.slice pa len pc, .slice (some ⟨W.heap.size, 0, none⟩) 1 1]).run Tryd.prog (W.alloc (.cells #[.int .i64 (part : Int), .slice a1 l.length c1] 42)) = .ok (.slice a' (len + 1) c') W') ∧ (W'.cell? ⟨G0 + 1, 6, none⟩ = some (.slice pa len pc) ∧ W'.frozen? ⟨G0 + 1, 6, none⟩ = false) ∧ ∃ ms' s'', ms'.length = len + 1 ∧ DI w r a cap bs G0 s'' (W'.setCell ⟨G0 + 1, 6, none⟩ (.slice a' (len + 1) c')) (mkC L T f g h i (psOf ms')) ⟨la, lc, ta, tc, a', c', ms'⟩ ∧ Stage (wholeC bs) s'' (bind_ (repP (fun _ => prP L.length h) (q - (len + 1)) (psOf ms')) (endP L T f g h i) bs s''.nx) ∧ Fixed L n s'') := hd (by
            rintro W a1 c1 l ⟨s'', hm, hst, hll⟩
            have hl := HL.out
            have hD := (D6.out.below (below_draw w6 1)).step H.out hrG hm.out
            have hDn : (mkC L T f g h i (psOf ms)).procs.length = len := by simp [mkC, psOf_len, hl]
            refine ⟨?_, ?_⟩
            · have := hD.cells.2.2.2.2.2.2
              simp only [hDn] at this
              exact this
            · obtain ⟨a', c', W', e1, e2, e3⟩ := (D6.out.below (below_draw w6 1)).pushP H.out hrG (by rw [hDn]; omega) ⟨⟨(part : Int), l⟩, a1, c1⟩ hm
              simp only [hDn] at e1 e2 e3
              refine ⟨a', c', W', e1, e2, ms ++ [⟨⟨(part : Int), l⟩, a1, c1⟩], s'', by simp [hl], ?_, ?_, ?_⟩
              · rw [psOf_snoc]
                exact e3
              · rw [psOf_snoc]
                exact hst
              · exact fun _ => hLn.out)
          have kl' : w6.drew.cell? ⟨G0 + 1, 6, none⟩ = some (.slice pa len pc) := kl
          have kh' : w6.drew.cell? ⟨G0 + 1, 4, none⟩ = some (.int .i64 (h : Int)) := kh
          clear st3 D6
          go_region_law
            (first
              | (go_simp; with_reducible refine hcode.mono ?_; rintro e w7 ⟨a1, c1, l, rfl, o7⟩
                 obtain ⟨kl7, a', c', w8, hap, ⟨kc, kf⟩, ms', s'', hml, HN⟩ := HP.out w7 a1 c1 l o7
                 replace hap := hd hap
                 replace HN := hd HN
                 replace hml := hd hml
                 have kl8 : (w7.alloc (.cells #[.int .i64 (part : Int), .slice a1 (List.length l) c1] 42)).cell? ⟨G0 + 1, 6, none⟩ = some (.slice pa len pc) := ((below_al w7 _).cell (World.block_lt_of_cell? w7 _ kl7)).trans kl7
                 clear o7)
              | (refine step_append_run (by rfl) _ _ _ (by rfl) _ _ _ _ (by rfl) (by rfl) hap.out ?_; clear hap))
          all_goals go_wp2_with fail
          all_goals go_roundg (gk - 1)
          all_goals first | omega | exact ⟨ms', len + 1, a', c', s'', by go_num, by omega, hml, HN⟩
        · have d0 : (s'.e == 0) = false := by simpa using hz
          have HZ := hd hz
          clear hz
          go_wp2_with fail
          go_meet
          exact ⟨ms, pa, pc, s', hd ⟨HW.out.1, .inr ⟨HZ.out, HW.out.2.1.bad HZ.out⟩⟩⟩
  case rest =>
  clear HS HD HF hqb
  obtain ⟨ms, pa, pc, s', HC⟩ := hcut
  have c0 := HC.out.1.cb.cell 0
  have c1 := HC.out.1.cb.cell 1
  have c2 := HC.out.1.cb.cell 2
  have c3 := HC.out.1.cb.cell 3
  have c4 := HC.out.1.cb.cell 4
  have c5 := HC.out.1.cb.cell 5
  have c6 := HC.out.1.cb.cell 6
  simp [cfA, mkC, psOf_len] at c0 c1 c2 c3 c4 c5 c6
  have a0 := HC.out.1.cb.cell0 0
  have a1 := HC.out.1.cb.cell0 1
  have a2 := HC.out.1.cb.cell0 2
  have a3 := HC.out.1.cb.cell0 3
  have a4 := HC.out.1.cb.cell0 4
  have a5 := HC.out.1.cb.cell0 5
  have a6 := HC.out.1.cb.cell0 6
  have fz := HC.out.1.cb.free0
  simp at a0 a1 a2 a3 a4 a5 a6
  go_wp2_with fail
  obtain ⟨e1, e2, e3⟩ := HC.out.1.cb.ends H.out (.slice la L.length lc) (.slice ta T.length tc) (.int .i64 (f : Int)) (.int .i64 (g : Int)) (.int .i64 (h : Int)) (.int .i64 (i : Int)) (.slice pa ms.length pc)
  unfold put7 at e1 e2 e3
  generalize ((((((wc.setCell ⟨G0, 0, none⟩ (.slice la L.length lc)).setCell ⟨G0, 1, none⟩ (.slice ta T.length tc)).setCell ⟨G0, 2, none⟩ (.int .i64 (f : Int))).setCell ⟨G0, 3, none⟩ (.int .i64 (g : Int))).setCell ⟨G0, 4, none⟩ (.int .i64 (h : Int))).setCell ⟨G0, 5, none⟩ (.int .i64 (i : Int))).setCell ⟨G0, 6, none⟩ (.slice pa ms.length pc) = WZ at *
  have d0 := cell_of_row WZ G0 0 _ _ _ e2
  have d1 := cell_of_row WZ G0 1 _ _ _ e2
  have d2 := cell_of_row WZ G0 2 _ _ _ e2
  have d3 := cell_of_row WZ G0 3 _ _ _ e2
  have d4 := cell_of_row WZ G0 4 _ _ _ e2
  have d5 := cell_of_row WZ G0 5 _ _ _ e2
  have d6 := cell_of_row WZ G0 6 _ _ _ e2
  simp at d0 d1 d2 d3 d4 d5 d6
  refine bodyPost_ret (v := cfV (mkC L T f g h i (psOf ms)) ⟨la, lc, ta, tc, pa, pc, ms⟩) ?_ rfl ⟨mkC L T f g h i (psOf ms), ⟨la, lc, ta, tc, pa, pc, ms⟩, s', rfl, e1, ⟨(e3 (G0 + 2) _ (by omega) HC.out.1.own).mono (by have := hG0.out; omega), rfl⟩, HC.out.2⟩
  simp [results, Tryd.results47, go_sem, cfV, cfA, mkC, psOf_len, d0, d1, d2, d3, d4, d5, d6]
end
end Go.Proofs.YtmjokinagbpihaaDoor.Doc
