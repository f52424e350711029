/- May, by the document's answer. -/
import Derived.Test.YtmjokinagbpihaaDoorCW6
namespace Go.Proofs.YtmjokinagbpihaaDoor
open Go.RowKit

set_option maxRecDepth 100000 in
set_option maxHeartbeats 2000000 in
theorem rmay_any (a : Option Addr) (cap : Nat) (l : List Ins) (k : Int) (w : World) (hP : Prg w a l) :
    Calls Tryd.prog 35 #[.slice a l.length cap, .int .i64 k] w fun e w' => e = .returned (.tuple #[.int .i64 (mayL l k).1, .int .i64 (mayL l k).2]) ∧ Below w.heap.size w w' := by
  by_cases h1 : k < 0
  · have e : mayL l k = (1, 0) := by unfold mayL; rw [if_pos (by omega)]
    rw [e]
    clear e hP
    go_enter Tryd.func35, Tryd.ntmps35
    go_wp2
    go_ret2
    exact ⟨rfl, Below.refl _ _⟩
  · have d1 : decide (k < 0) = false := by simpa using h1
    by_cases h2 : 8 < k
    · have e : mayL l k = (1, 0) := by unfold mayL; rw [if_pos (by omega)]
      rw [e]
      clear e hP h1
      go_enter Tryd.func35, Tryd.ntmps35
      go_wp2
      go_ret2
      exact ⟨rfl, Below.refl _ _⟩
    · have d2 : decide (8 < k) = false := by simpa using h2
      by_cases h3 : 256 < l.length
      · have e : mayL l k = (3, 256) := by unfold mayL; rw [if_neg (by omega), if_pos h3]
        rw [e]
        have d3 : (256 : Int) < (l.length : Int) := by omega
        clear e hP h1 h2
        go_enter Tryd.func35, Tryd.ntmps35
        go_wp2
        go_ret2
        exact ⟨rfl, Below.refl _ _⟩
      · have e : mayL l k = firstE l.length k l 0 := by unfold mayL; rw [if_neg (by omega), if_neg h3]
        rw [e]
        have hlen : l.length ≤ 256 := by omega
        have d3 : decide ((256 : Int) < (l.length : Int)) = false := by simp; omega
        obtain ⟨R, hR⟩ : ∃ R, Hid (firstE l.length k l 0 = R) := ⟨_, rfl⟩
        rw [hR.out]
        have HP : Hid (Prg w a l) := hP
        clear e hP h1 h2 h3
        go_enter Tryd.func35, Tryd.ntmps35
        go_wp2
        go_loopw [6, 7] (fun v6 _ wr => ∃ i : Nat, v6 = .int .i64 i ∧ i ≤ l.length ∧ Hid (∀ j, j < i → (wrong (l.getD j default) l.length k).1 = 0) ∧ Below w.heap.size w wr) (fun v6 _ _ => l.length - (intOf v6).toNat)
        case atStart => exact ⟨0, rfl, Nat.zero_le _, hd (fun j hj => absurd hj (Nat.not_lt_zero j)), Below.refl _ _⟩
        case round =>
          obtain ⟨i, rfl, hi, hall, hbr⟩ := hrel
          by_cases hlt : i < l.length
          · have hlt' : (i : Int) < (l.length : Int) := by omega
            obtain ⟨b, off, rfl, hx⟩ := HP.out i hlt
            have hx := hx.kept hbr
            have hck := rcheck_any (l.getD i default) l.length k
            obtain ⟨k0, k1, k2, k3, k4⟩ := hx
            by_cases hw : (wrong (l.getD i default) l.length k).1 = 0
            · have hall' : Hid (∀ j, j < i + 1 → (wrong (l.getD j default) l.length k).1 = 0) := hd (fun j hj => by
                by_cases e : j = i
                · rw [e]; exact hw
                · exact hall.out j (by omega))
              rw [hw] at hck
              clear hw hall HP
              generalize l.getD i default = x at *
              unfold insV at hck
              go_wp2_with fail
              refine (hck _).mono ?_
              rintro e w1 ⟨rfl, b1⟩
              replace b1 := hbr.trans (b1.mono hbr.size)
              go_wp2_with fail
              go_roundw
              case rel => exact ⟨i + 1, by go_num, by omega, hall', b1⟩
              case measure => simp [intOf]; omega
            · have hfin : Hid (R = ((wrong (l.getD i default) l.length k).1, (i : Int))) := hd (by
                rw [← hR.out, firstE_at _ _ l 0 i hlt hall.out hw, Int.zero_add])
              generalize (wrong (l.getD i default) l.length k).1 = E at *
              have dE : (E == 0) = false := by simpa using hw
              clear hw hall HP hR
              generalize l.getD i default = x at *
              unfold insV at hck
              go_wp2_with fail
              refine (hck _).mono ?_
              rintro e w1 ⟨rfl, b1⟩
              replace b1 := hbr.trans (b1.mono hbr.size)
              go_wp2_with fail
              go_ret2
              exact ⟨by rw [hfin.out]; rfl, b1⟩
          · have hltd : decide ((i : Int) < (l.length : Int)) = false := by simp; omega
            have hge : (l.length : Int) ≤ (i : Int) := by omega
            have hfin : Hid (R = (0, 0)) := hd (by rw [← hR.out, firstE_none _ _ l 0 (fun j hj => hall.out j (by omega))])
            clear hall hR HP
            go_wp2
            go_ret2
            exact ⟨by rw [hfin.out]; rfl, hbr⟩
end Go.Proofs.YtmjokinagbpihaaDoor
