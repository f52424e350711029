/- ValidTight. -/
import Derived.Test.YtehapcoppghppaaDoorVW7
import Derived.Test.YtehapcoppghppaaDoorVM6
import Derived.Deep.DeepCutAuto
namespace Go.Proofs.YtehapcoppghppaaDoor
open Go.RowKit

set_option maxRecDepth 100000 in
set_option maxHeartbeats 4000000 in
theorem validTight_walk (a : Option Addr) (cap : Nat) (l : List Ins) (k : Int) (w : World) (hP : Prg w a l) (hF : Fld w) :
    Calls Tryd.prog 6 #[.slice a l.length cap, .int .i64 k] w fun e w' => e = .returned (.bool true) ∧ Below w.heap.size w w' := by
  have HP : Hid (Prg w a l) := hP
  have HF : Hid (Fld w) := hF
  have hLo := longest_any a cap l k w hP hF
  have hMy := fun (W : World) (h : Below w.heap.size w W) => may_any a cap l k W (HP.out.kept h) (HF.out.kept h)
  have hFx := fun (W : World) (h : Below w.heap.size w W) => fixed_any W (HF.out.kept h)
  have hCk := fun (h : Int) (W : World) (hb : Below w.heap.size w W) => check8_any a cap l k h W (HP.out.kept hb) (HF.out.kept hb)
  rcases tight l k with ⟨hm, hl⟩ | ⟨e, p, q, hm, he, hl, hp, hc, hq⟩ | ⟨n, hm, hl, hn, hc, hs⟩
  · rw [hl] at hLo
    generalize mayL l k = R at *
    have d0 : (R.1 != 0) = true := by simpa using hm
    clear hP hF hm hl hCk
    go_enter Tryd.func6, Tryd.ntmps6
    go_wp2_with (first
      | (go_at_call 11; refine hLo.mono ?_; rintro e1 w1 ⟨rfl, b1⟩)
      | (go_at_call 14; refine (hMy _ b1).mono ?_; rintro e2 w2 ⟨rfl, b2⟩; replace b2 := b1.trans (b2.mono b1.size))
      | (go_at_call 7; refine (hFx _ b2).mono ?_; rintro e3 w3 ⟨rfl, b3⟩; replace b3 := b2.trans (b3.mono b2.size)))
    go_ret
    exact ⟨rfl, b3⟩
  · rw [hl] at hLo
    rw [(ok_of_may hm).2.2.2.1] at hMy
    have hC64 := hCk 64
    rw [hc] at hC64
    have d0 : (e != 0) = true := by simpa using he
    have hpl : (p : Int) < (l.length : Int) := by omega
    have hpl' : decide ((l.length : Int) ≤ (p : Int)) = false := by simp; omega
    clear hP hF hm hl hCk hc he
    by_cases hqp : q = p
    · subst hqp
      go_enter Tryd.func6, Tryd.ntmps6
      go_wp2_with (first
        | (go_at_call 11; refine hLo.mono ?_; rintro e1 w1 ⟨rfl, b1⟩)
        | (go_at_call 14; refine (hMy _ b1).mono ?_; rintro e2 w2 ⟨rfl, b2⟩; replace b2 := b1.trans (b2.mono b1.size))
        | (go_at_call 9; refine (hC64 _ b2).mono ?_; rintro e4 w4 ⟨rfl, b4⟩; replace b4 := b2.trans (b4.mono b2.size))
        | (go_at_call 7; refine (hFx _ b4).mono ?_; rintro e3 w3 ⟨rfl, b3⟩; replace b3 := b4.trans (b3.mono b4.size)))
      go_ret
      exact ⟨rfl, b3⟩
    · obtain ⟨rfl, hq2⟩ : e = 15 ∧ q ≤ p := by
        rcases hq with h | h
        · exact absurd h hqp
        · exact h
      have dq : ((q : Int) == (p : Int)) = false := by simp; omega
      have hq2' : (q : Int) ≤ (p : Int) := by omega
      clear hq hqp
      go_enter Tryd.func6, Tryd.ntmps6
      go_wp2_with (first
        | (go_at_call 11; refine hLo.mono ?_; rintro e1 w1 ⟨rfl, b1⟩)
        | (go_at_call 14; refine (hMy _ b1).mono ?_; rintro e2 w2 ⟨rfl, b2⟩; replace b2 := b1.trans (b2.mono b1.size))
        | (go_at_call 9; refine (hC64 _ b2).mono ?_; rintro e4 w4 ⟨rfl, b4⟩; replace b4 := b2.trans (b4.mono b2.size))
        | (go_at_call 7; refine (hFx _ b4).mono ?_; rintro e3 w3 ⟨rfl, b3⟩; replace b3 := b4.trans (b3.mono b4.size)))
      go_ret
      exact ⟨rfl, b3⟩
  · rw [hl] at hLo
    obtain ⟨ok, _, _, em, _⟩ := ok_of_may hm
    rw [em] at hMy
    have hlen := ok.len
    have HC := hd hc
    have HSm := hd hs
    have hnn : decide ((n : Int) < 0) = false := by simp
    clear hP hF hm hl hc hs ok em
    go_enter Tryd.func6, Tryd.ntmps6
    go_upto_region 12 with (first
      | (go_at_call 11; refine hLo.mono ?_; rintro e1 w1 ⟨rfl, b1⟩)
      | (go_at_call 14; refine (hMy _ b1).mono ?_; rintro e2 w2 ⟨rfl, b2⟩; replace b2 := b1.trans (b2.mono b1.size)))
    clear hLo hMy
    go_cut [12] (fun v12 wy => ∃ h : Nat, v12 = .int .i64 (h : Int) ∧ h ≤ n ∧ wy = w2)
    case first =>
      rcases Int.lt_or_le 0 ((n : Int) - 2) with h | h
      · go_wp2_with fail
        go_meet
        case rel => exact ⟨n - 2, by congr 1; omega, by omega, rfl⟩
      · go_wp2_with fail
        go_meet
        case rel => exact ⟨0, rfl, by omega, rfl⟩
    case rest =>
      obtain ⟨h0, rfl, hh0, hwc⟩ := hcut
      obtain rfl : w2 = wc := hwc.symm
      have HF2 : Hid (Below w.heap.size w w2) := hd b2
      clear b1 b2 hnn
      go_wp2_with fail
      go_loopg [12] (n + 4 - h0) (fun k' v12 wr => ∃ h : Nat, v12 = .int .i64 (h : Int) ∧ h + k' = n + 4 ∧ Hid (Below w.heap.size w wr))
      case atStart => exact ⟨h0, rfl, by omega, HF2⟩
      case round =>
        obtain ⟨h, rfl, hk, BR⟩ := hrel
        have hgk : h ≤ 70010 := by omega
        go_upto_region 13 with fail
        go_cut [95] (fun v95 wy => ∃ b : Bool, v95 = .bool b ∧ Hid (b = true → h ≤ 64 ∧ h ≤ n + 2) ∧ wy = wr)
        case first =>
          rcases Int.lt_or_le ((n : Int) + 2) 64 with h1 | h1
          · by_cases h2 : (h : Int) ≤ (n : Int) + 2
            · go_wp2_with fail
              go_meet
              case rel => exact ⟨true, rfl, hd (fun _ => by omega), rfl⟩
            · have h2' : decide ((h : Int) ≤ (n : Int) + 2) = false := by simpa using h2
              go_wp2_with fail
              go_meet
              case rel => exact ⟨false, rfl, hd (fun h => by cases h), rfl⟩
          · by_cases h2 : (h : Int) ≤ 64
            · have h3 : (h : Int) ≤ (n : Int) + 2 := by omega
              go_wp2_with fail
              all_goals
                go_meet
                exact ⟨true, rfl, hd (fun _ => by omega), rfl⟩
            · have h2' : decide ((h : Int) ≤ 64) = false := by simpa using h2
              rcases Int.lt_or_le 64 ((n : Int) + 2) with h4 | h4
              · go_wp2_with fail
                go_meet
                case rel => exact ⟨false, rfl, hd (fun h => by cases h), rfl⟩
              · have h3' : decide ((h : Int) ≤ (n : Int) + 2) = false := by simp; omega
                go_wp2_with fail
                all_goals
                  go_meet
                  exact ⟨false, rfl, hd (fun h => by cases h), rfl⟩
        case rest =>
          obtain ⟨b, rfl, hb, hwc⟩ := hcut
          obtain rfl : wr = wc := hwc.symm
          cases b
          · clear hb
            go_wp2_with fail
            go_loopg [15, 16] l.length (fun k' v15 v16 wi => ∃ (i : Nat) (sm : Bool), v15 = .bool sm ∧ v16 = .int .i64 (i : Int) ∧ i + k' = l.length ∧ Hid (((∃ j, j < i ∧ (l.getD j default).op = 29) → sm = true) ∧ Below w.heap.size w wi))
            case atStart => exact ⟨0, false, rfl, rfl, by omega, hd ⟨fun ⟨j, hj, _⟩ => absurd hj (Nat.not_lt_zero j), BR.out⟩⟩
            case round =>
              obtain ⟨i, sm, rfl, rfl, hik, HH⟩ := hrel
              by_cases hlt : i < l.length
              · have hlt' : (i : Int) < (l.length : Int) := by omega
                cases sm
                · obtain ⟨ba, off, rfl, hx⟩ := HP.out i hlt
                  have c0 := (hx.kept HH.out.2).c0
                  by_cases h29 : (l.getD i default).op = 29
                  · rw [h29] at c0
                    clear h29 hx
                    go_wp2_with fail
                    go_roundg (gk - 1)
                    case measure => omega
                    case rel => exact ⟨i + 1, true, rfl, by go_num, by omega, hd ⟨fun _ => rfl, HH.out.2⟩⟩
                  · have d29 : ((l.getD i default).op == 29) = false := by simpa using h29
                    have HI : Hid ((∃ j, j < i + 1 ∧ (l.getD j default).op = 29) → false = true) := hd (fun ⟨j, hj, hj2⟩ => by
                      by_cases e : j = i
                      · rw [e] at hj2; exact absurd hj2 h29
                      · exact HH.out.1 ⟨j, by omega, hj2⟩)
                    clear h29 hx
                    generalize (l.getD i default).op = o at *
                    go_wp2_with fail
                    go_roundg (gk - 1)
                    case measure => omega
                    case rel => exact ⟨i + 1, false, rfl, by go_num, by omega, hd ⟨HI.out, HH.out.2⟩⟩
                · go_wp2_with fail
                  go_roundg (gk - 1)
                  case measure => omega
                  case rel => exact ⟨i + 1, true, rfl, by go_num, by omega, hd ⟨fun _ => rfl, HH.out.2⟩⟩
              · have hltd : decide ((i : Int) < (l.length : Int)) = false := by simp; omega
                have hFx' := hFx _ HH.out.2
                cases sm
                · have hn0 : n = 0 := by
                    rcases HSm.out with h | ⟨j, hj, hj2⟩
                    · exact h
                    · exact absurd (HH.out.1 ⟨j, by omega, hj2⟩) (by decide)
                  have dn : ((n : Int) == 0) = true := by simp [hn0]
                  clear hn0
                  go_wp2_with (go_at_call 7; refine hFx'.mono ?_; rintro e3 w3 ⟨rfl, b3⟩)
                  go_ret
                  exact ⟨rfl, HH.out.2.trans (b3.mono HH.out.2.size)⟩
                · go_wp2_with (go_at_call 7; refine hFx'.mono ?_; rintro e3 w3 ⟨rfl, b3⟩)
                  go_ret
                  exact ⟨rfl, HH.out.2.trans (b3.mono HH.out.2.size)⟩
          · obtain ⟨hb1, hb2⟩ := hb.out rfl
            have hC := hCk h wr BR.out
            rcases HC.out h (by omega) (by omega) with ⟨h1, h2⟩ | ⟨h1, q, hq, h29, h2⟩
            · rw [h2] at hC
              have dh : (n : Int) ≤ (h : Int) := h1
              go_wp2_with (go_at_call 9; refine hC.mono ?_; rintro e3 w3 ⟨rfl, b3⟩)
              go_roundg (gk - 1)
              case measure => omega
              case rel => exact ⟨h + 1, by go_num, by omega, hd (BR.out.trans (b3.mono BR.out.size))⟩
            · rw [h2] at hC
              have dh : decide ((n : Int) ≤ (h : Int)) = false := by simp; omega
              have hq' : decide ((l.length : Int) ≤ (q : Int)) = false := by simp; omega
              have hq2 : (q : Int) < (l.length : Int) := by omega
              obtain ⟨ba, off, rfl, hx⟩ := HP.out q hq
              go_wp2_with (go_at_call 9; refine hC.mono ?_; rintro e3 w3 ⟨rfl, b3⟩; have c0 := (hx.kept (BR.out.trans (b3.mono BR.out.size))).c0; rw [h29] at c0)
              go_roundg (gk - 1)
              case measure => omega
              case rel => exact ⟨h + 1, by go_num, by omega, hd (BR.out.trans (b3.mono BR.out.size))⟩
end Go.Proofs.YtehapcoppghppaaDoor
