/- The document's side: Longest, Check. -/
import Derived.Test.YtehapcoppghppaaDoorVR5
namespace Go.Proofs.YtehapcoppghppaaDoor
open Go.RowKit

set_option maxRecDepth 100000 in
set_option maxHeartbeats 4000000 in
theorem rcheck8_any (a : Option Addr) (cap : Nat) (l : List Ins) (k h : Int) (w : World) (hP : Prg w a l) :
    Calls Tryd.prog 10 #[.slice a l.length cap, .int .i64 k, .int .i64 h] w fun e w' => e = .returned (.tuple #[.int .i64 (checkL l k h).1, .int .i64 (checkL l k h).2]) ∧ Below w.heap.size w w' := by
  have hLk := looked_any a cap l k w hP
  by_cases h1 : h < 0
  · rw [checkL_arg (.inl h1)]
    clear hLk hP
    go_enter Tryd.func10, Tryd.ntmps10
    go_wp2_with fail
    go_ret2
    exact ⟨rfl, Below.refl _ _⟩
  · have d1 : decide (h < 0) = false := by simpa using h1
    by_cases h2 : 64 < h
    · rw [checkL_arg (.inr h2)]
      clear hLk hP h1
      go_enter Tryd.func10, Tryd.ntmps10
      go_wp2_with fail
      go_ret2
      exact ⟨rfl, Below.refl _ _⟩
    · have d2 : decide (64 < h) = false := by simpa using h2
      have hn : Hid (¬ (h < 0 ∨ 64 < h)) := hd (by omega)
      have HP : Hid (Prg w a l) := hP
      obtain ⟨R, hR⟩ : ∃ R, Hid (checkL l k h = R) := ⟨_, rfl⟩
      rw [hR.out]
      clear hP h1 h2
      by_cases he : (erL l k).1 = 0
      · obtain ⟨hm, ok, hW, e0⟩ := er_zero he
        have HR0 : Hid (R = chk (spU l l.length 0) h) := hd (by rw [← hR.out, checkL_ok hn.out he, spU_zero])
        have hHo := fun (W : World) (hb : Below w.heap.size w W) => rholds_any a cap l W (HP.out.kept hb) ok hW
        have hl256 := ok.len
        rw [e0] at hLk
        obtain ⟨N, hN⟩ : ∃ N, Hid (l.length = N) := ⟨_, rfl⟩
        unfold HoPost at hHo
        rw [hN.out] at hHo HR0 hl256 hLk ⊢
        clear hm ok hW e0 he hR
        go_enter Tryd.func10, Tryd.ntmps10
        go_wp2_with (first
          | (go_at_call 16; refine hLk.mono ?_; rintro e1 w1 ⟨rfl, b1⟩)
          | (go_at_call 17; refine (hHo _ b1).mono ?_; rintro e2 w2 ⟨g, rfl, hA, b2⟩; replace b2 := b1.trans (b2.mono b1.size)))
        have HA : Hid (Arr w2 w1.heap.size g 3 N (iF (hv l))) := hd hA
        have HB : Hid (Below w.heap.size w w2) := hd b2
        clear hA b2 hLk hHo b1
        go_loopg [11] N (fun k' v11 wr => ∃ p : Nat, v11 = .int .i64 (p : Int) ∧ p + k' = N ∧ Hid (R = chk (spU l k' p) h ∧ wr = w2))
        case atStart => exact ⟨0, rfl, by omega, hd ⟨HR0.out, rfl⟩⟩
        case round =>
          obtain ⟨p, rfl, hpk, HH⟩ := hrel
          obtain ⟨HHr0, rfl⟩ := HH.out
          have HHr := hd HHr0
          clear HR0 HH HHr0
          by_cases hlt : p < N
          · have hlt' : (p : Int) < (N : Int) := by omega
            have cs := HA.out.cell p hlt
            unfold iF at cs
            obtain ⟨j, hj⟩ : ∃ j, Hid (gk = j + 1) := ⟨gk - 1, hd (by omega)⟩
            have HC : Hid (R = if hv l p < 0 ∨ h < hv l p then (15, (p : Int)) else chk (spU l j (p + 1)) h) := hd (by
              rw [HHr.out, hj.out, chk_hv p j h (by have := hn.out; omega) (by have := hn.out; omega)])
            obtain ⟨V, hV⟩ : ∃ V, Hid (hv l p = V) := ⟨_, rfl⟩
            rw [hV.out] at cs HC
            by_cases hv0 : V < 0
            · have HE : Hid (R = (15, (p : Int))) := hd (by rw [HC.out, if_pos (.inl hv0)])
              clear HC
              go_wp2_with fail
              go_ret2
              exact ⟨by rw [HE.out]; rfl, HB.out⟩
            · have dv0 : decide (V < 0) = false := by simpa using hv0
              by_cases hvh : h < V
              · have HE : Hid (R = (15, (p : Int))) := hd (by rw [HC.out, if_pos (.inr hvh)])
                clear HC
                go_wp2_with fail
                go_ret2
                exact ⟨by rw [HE.out]; rfl, HB.out⟩
              · have dvh : decide (h < V) = false := by simpa using hvh
                have HE : Hid (R = chk (spU l j (p + 1)) h) := hd (by rw [HC.out, if_neg (by omega)])
                clear HC
                go_wp2_with fail
                go_roundg j
                case measure => have := hj.out; omega
                case rel => exact ⟨p + 1, by go_num, by have := hj.out; omega, hd ⟨HE.out, rfl⟩⟩
          · have hltd : decide ((p : Int) < (N : Int)) = false := by simp; omega
            have HE : Hid (R = (0, 0)) := hd (by rw [HHr.out, show gk = 0 by omega]; rfl)
            go_wp2_with fail
            go_ret2
            exact ⟨by rw [HE.out]; rfl, HB.out⟩
      · have HE : Hid (R = erL l k) := hd (by rw [← hR.out, checkL_err hn.out he])
        clear hR
        generalize erL l k = E at *
        have d0 : (E.1 != 0) = true := by simpa using he
        clear he
        go_enter Tryd.func10, Tryd.ntmps10
        go_wp2_with (go_at_call 16; refine hLk.mono ?_; rintro e1 w1 ⟨rfl, b1⟩)
        go_ret2
        exact ⟨by rw [HE.out]; rfl, b1⟩

set_option maxRecDepth 100000 in
set_option maxHeartbeats 4000000 in
theorem rlongest_any (a : Option Addr) (cap : Nat) (l : List Ins) (k : Int) (w : World) (hP : Prg w a l) :
    Calls Tryd.prog 12 #[.slice a l.length cap, .int .i64 k] w fun e w' => e = .returned (.tuple #[.int .i64 (longL l k).1, .int .i64 (longL l k).2.1, .int .i64 (longL l k).2.2]) ∧ Below w.heap.size w w' := by
  have hLk := looked_any a cap l k w hP
  have HP : Hid (Prg w a l) := hP
  obtain ⟨R, hR⟩ : ∃ R, Hid (longL l k = R) := ⟨_, rfl⟩
  rw [hR.out]
  clear hP
  by_cases he : (erL l k).1 = 0
  · obtain ⟨hm, ok, hW, e0⟩ := er_zero he
    have HR0 : Hid (R = lng 0 (spU l l.length 0)) := hd (by rw [← hR.out, longL_ok he, spU_zero])
    have hHo := fun (W : World) (hb : Below w.heap.size w W) => rholds_any a cap l W (HP.out.kept hb) ok hW
    have hl256 := ok.len
    rw [e0] at hLk
    obtain ⟨N, hN⟩ : ∃ N, Hid (l.length = N) := ⟨_, rfl⟩
    unfold HoPost at hHo
    rw [hN.out] at hHo HR0 hl256 hLk ⊢
    clear hm ok hW e0 he hR
    go_enter Tryd.func12, Tryd.ntmps12
    go_wp2_with (first
      | (go_at_call 16; refine hLk.mono ?_; rintro e1 w1 ⟨rfl, b1⟩)
      | (go_at_call 17; refine (hHo _ b1).mono ?_; rintro e2 w2 ⟨g, rfl, hA, b2⟩; replace b2 := b1.trans (b2.mono b1.size)))
    have HA : Hid (Arr w2 w1.heap.size g 3 N (iF (hv l))) := hd hA
    have HB : Hid (Below w.heap.size w w2) := hd b2
    clear hA b2 hLk hHo b1
    go_loopg [9, 11] N (fun k' v9 v11 wr => ∃ (p : Nat) (z : Int), v9 = .int .i64 z ∧ v11 = .int .i64 (p : Int) ∧ p + k' = N ∧ Hid (R = lng z (spU l k' p) ∧ 0 ≤ z ∧ wr = w2))
    case atStart => exact ⟨0, 0, rfl, rfl, by omega, hd ⟨HR0.out, Int.le_refl _, rfl⟩⟩
    case round =>
      obtain ⟨p, z, rfl, rfl, hpk, HH⟩ := hrel
      obtain ⟨HHr0, hz0, rfl⟩ := HH.out
      have HHr := hd HHr0
      have HZ := hd hz0
      clear HR0 HH hz0 HHr0
      by_cases hlt : p < N
      · have hlt' : (p : Int) < (N : Int) := by omega
        have cs := HA.out.cell p hlt
        unfold iF at cs
        obtain ⟨j, hj⟩ : ∃ j, Hid (gk = j + 1) := ⟨gk - 1, hd (by omega)⟩
        have HC : Hid (R = if hv l p < 0 then (0, 15, (p : Int)) else lng (max z (hv l p)) (spU l j (p + 1))) := hd (by
          rw [HHr.out, hj.out, lng_hv p j z HZ.out])
        obtain ⟨V, hV⟩ : ∃ V, Hid (hv l p = V) := ⟨_, rfl⟩
        rw [hV.out] at cs HC
        by_cases hv0 : V < 0
        · have HE : Hid (R = (0, 15, (p : Int))) := hd (by rw [HC.out, if_pos hv0])
          clear HC
          go_wp2_with fail
          go_ret3
          exact ⟨by rw [HE.out]; rfl, HB.out⟩
        · have dv0 : decide (V < 0) = false := by simpa using hv0
          have HE : Hid (R = lng (max z V) (spU l j (p + 1))) := hd (by rw [HC.out, if_neg hv0])
          clear HC
          by_cases hzv : z < V
          · have HE' : Hid (R = lng V (spU l j (p + 1))) := hd (by rw [HE.out, show max z V = V by omega])
            have HZ' : Hid (0 ≤ V) := hd (by omega)
            clear HE
            go_wp2_with fail
            go_roundg j
            case measure => have := hj.out; omega
            case rel => exact ⟨p + 1, V, rfl, by go_num, by have := hj.out; omega, hd ⟨HE'.out, HZ'.out, rfl⟩⟩
          · have hzv' : V ≤ z := by omega
            have HE' : Hid (R = lng z (spU l j (p + 1))) := hd (by rw [HE.out, show max z V = z by omega])
            clear HE
            go_wp2_with fail
            go_roundg j
            case measure => have := hj.out; omega
            case rel => exact ⟨p + 1, z, rfl, by go_num, by have := hj.out; omega, hd ⟨HE'.out, HZ.out, rfl⟩⟩
      · have hltd : decide ((p : Int) < (N : Int)) = false := by simp; omega
        have HE : Hid (R = (z, 0, 0)) := hd (by rw [HHr.out, show gk = 0 by omega]; rfl)
        go_wp2_with fail
        go_ret3
        exact ⟨by rw [HE.out]; rfl, HB.out⟩
  · have HE : Hid (R = (0, erL l k)) := hd (by rw [← hR.out, longL_err he])
    clear hR
    generalize erL l k = E at *
    have d0 : (E.1 != 0) = true := by simpa using he
    clear he
    go_enter Tryd.func12, Tryd.ntmps12
    go_wp2_with (go_at_call 16; refine hLk.mono ?_; rintro e1 w1 ⟨rfl, b1⟩)
    go_ret3
    exact ⟨by rw [HE.out]; rfl, b1⟩
end Go.Proofs.YtehapcoppghppaaDoor
