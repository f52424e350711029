/- LaneOrder's walk. -/
import Derived.Test.YthldnbikephncaaLWD
namespace Go.Proofs.Ythldnbikephncaa
open Go.RowKit

def bC (l : List Bool) : List Value := l.map .bool
theorem bC_at (l : List Bool) (i : Nat) (h : i < l.length) : (bC l)[i]? = some (.bool (l.getD i false)) := by
  simp [bC, List.getD_eq_getElem?_getD, List.getElem?_eq_getElem h]

set_option maxRecDepth 100000 in
set_option maxHeartbeats 2000000 in
theorem order_no {room : Int} {v : Value} {w : World} (hr : room < 1 ∨ 64 < room) : Calls Try.prog 4 #[.int .i64 room, v] w fun e w' => e = .returned (.bool true) ∧ Below w.heap.size w w' := by
  have hf := fixed_any w
  have hN := fun W : World => new_no (w := W) hr
  clear hr
  go_enter Try.func4, Try.ntmps4
  go_wp2_with (first | (go_at_call 5; refine hf.mono ?_; rintro e1 w1 ⟨rfl, b1⟩) | (go_at_call 12; refine (hN _).mono ?_; rintro e2 w2 ⟨rfl, b2⟩))
  go_ret
  exact ⟨rfl, b1.trans (b2.mono b1.size)⟩

set_option maxRecDepth 100000 in
set_option maxHeartbeats 4000000 in
theorem order_yes {room : Nat} {a : Option Addr} {cap : Nat} {l : List Bool} {w : World} (h1 : 1 ≤ room) (h2 : room ≤ 64) (hR : Rd w a (bC l)) (hn : l.length ≤ 1048576) :
    Calls Try.prog 4 #[.int .i64 (room : Int), .slice a l.length cap] w fun e w' => e = .returned (.bool true) ∧ Below w.heap.size w w' := by
  have hf := fixed_any w
  have hN := fun W : World => new_ok (w := W) h1 h2
  have HR := hd hR
  have HG := hd (good_new h1 h2)
  have H1 := hd h1
  clear hR
  go_enter Try.func4, Try.ntmps4
  go_upto_region 5 with (first | (go_at_call 5; refine hf.mono ?_; rintro e1 w1 ⟨rfl, b1⟩) | (go_at_call 12; refine (hN _).mono ?_; rintro e2 w2 hm; obtain ⟨b, rfl, L2⟩ := hm.liv b1 b1.size; clear hm))
  have HL : Hid (Liv w.heap.size w w2 60 b (ordS room 0 0 0 0)) := hd (by rw [← ord_new]; exact L2)
  clear L2 hf hN b1
  go_wp2_with fail
  go_loopg [8, 9, 10, 11] l.length (fun k v8 v9 v10 v11 wr => ∃ (i t L n : Nat) (tk : Int), v8 = .int .i64 n ∧ v9 = .int .i64 t ∧ v10 = .int .i64 L ∧ v11 = .int .i64 i ∧ i + k = l.length ∧ n ≤ i ∧ Hid (Ord room t L n ∧ Liv w.heap.size w wr 60 b (ordS room t L n tk) ∧ Good (ordS room t L n tk)))
  case atStart => exact ⟨0, 0, 0, 0, 0, rfl, rfl, rfl, rfl, by omega, by omega, hd ⟨⟨H1.out, by omega, by omega, by omega, by omega⟩, HL.out, by rw [← ord_new]; exact HG.out⟩⟩
  case round =>
    obtain ⟨i, t, L, n, tk, rfl, rfl, rfl, rfl, hik, hni, HH⟩ := hrel
    clear HL HG
    by_cases hlt : i < l.length
    · have hlt' : (i : Int) < (l.length : Int) := by omega
      obtain ⟨ba, oa, rfl, c0⟩ := HR.out.below HH.out.2.1.below i _ (bC_at l i hlt)
      obtain ⟨x, hx⟩ : ∃ x, Hid (l.getD i false = x) := ⟨_, rfl⟩
      rw [hx.out] at c0
      cases x
      · -- one goes in, or waits
        have hp := put_liv HH.out.2.1 HH.out.2.2 (n : Int)
        have hgp := HH.out.2.2.put (n : Int)
        by_cases hfull : L - t = room
        · rw [ord_put_full hfull] at hp
          simp only at hp
          have hw := fun W (h : Liv w.heap.size w W 60 b (ordS room t L n tk)) => wait_liv h (n : Int) (n : Int) (by rw [ord_wlen]; omega)
          rw [ord_wait hfull HH.out.1.Ln] at hw
          have hgw := HH.out.2.2.wait (p := (n : Int)) (by unfold Fit64; omega) (n : Int)
          rw [ord_wait hfull HH.out.1.Ln] at hgw
          have HF := hd hfull
          have HGW := hd hgw
          simp only at hw
          clear hgp hgw hfull
          go_wp2_with (first | (go_at_call 16; refine hp.mono ?_; rintro e3 w3 ⟨rfl, L3⟩; have hw3 := hw w3 L3; clear L3) | (go_at_call 17; refine hw3.mono ?_; rintro e4 w4 ⟨rfl, L4⟩))
          go_roundg (gk - 1)
          case measure => omega
          case rel => exact ⟨i + 1, t, L, n + 1, tk, by go_num, rfl, rfl, by go_num, by omega, by omega, hd ⟨⟨HH.out.1.r1, HH.out.1.tL, by have := HH.out.1.Ln; omega, HH.out.1.le, fun _ => HF.out⟩, L4, HGW.out⟩⟩
        · have eL : L = n := by
            have h3 := HH.out.1.Ln
            by_cases h : L < n
            · exact absurd (HH.out.1.full h) hfull
            · omega
          subst eL
          rw [ord_put_room HH.out.1.tL hfull] at hp hgp
          simp only at hp hgp
          have HF := hd hfull
          have HGP := hd hgp
          clear hgp hfull
          go_wp2_with (first | (go_at_call 16; refine hp.mono ?_; rintro e3 w3 ⟨rfl, L3⟩))
          go_roundg (gk - 1)
          case measure => omega
          case rel => exact ⟨i + 1, t, L + 1, L + 1, tk, by go_num, rfl, by go_num, by go_num, by omega, by omega, hd ⟨⟨HH.out.1.r1, by have := HH.out.1.tL; omega, by omega, by have := HH.out.1.le; have := HH.out.1.tL; have := HF.out; omega, fun h => by omega⟩, L3, HGP.out⟩⟩
      · -- one is taken
        have htk := take_liv HH.out.2.1 HH.out.2.2 (by rw [ord_wlen]; omega)
        have hgt := HH.out.2.2.take
        have htL := HH.out.1.tL
        have hLn := HH.out.1.Ln
        have hle := HH.out.1.le
        have hr1 := HH.out.1.r1
        have hfu := hd HH.out.1.full
        by_cases etn : t = n
        · obtain rfl : L = n := by omega
          subst etn
          rw [ord_take_none] at htk
          unfold tkV at htk
          simp only at htk
          have HO := hd HH.out.1
          have HG := hd HH.out.2.2
          clear hgt HH htL hLn hle
          go_wp2_with (first | (go_at_call 18; refine htk.mono ?_; rintro e3 w3 ⟨rfl, L3⟩; have L4 := hd (L3.bel (below_al w3 (.cells #[.int .i64 0, .int .i64 0] 50))); clear L3))
          go_roundg (gk - 1)
          case measure => omega
          case rel => exact ⟨i + 1, t, t, t, tk, rfl, rfl, rfl, by go_num, by omega, by omega, hd ⟨HO.out, L4.out, HG.out⟩⟩
        · have etn' : ((t : Int) == (n : Int)) = false := by simp; omega
          by_cases hLlt : L < n
          · have hfl := hfu.out hLlt
            have htl : t < L := by omega
            rw [ord_take_let htl hLlt] at htk hgt
            unfold tkV at htk
            simp only at htk hgt
            have HGT := hd hgt
            have hLlt' : (L : Int) < (n : Int) := by omega
            have HO : Hid (Ord room (t + 1) (L + 1) n) := hd ⟨by omega, by omega, by omega, by omega, fun _ => by omega⟩
            obtain ⟨q, hq⟩ : ∃ q, Hid (L - t = q) := ⟨_, rfl⟩
            have hql : q ≤ room := by have := hq.out; omega
            have hsub : (L : Int) + 1 - ((t : Int) + 1) = (q : Int) := by have := hq.out; omega
            have hsub2 : (L : Int) - (t : Int) = (q : Int) := by have := hq.out; omega
            have hq0 : decide ((room : Int) < (q : Int)) = false := by simp; omega
            have hlen := fun W (h : Liv w.heap.size w W 60 b (ordS room (t + 1) (L + 1) n (moreL tk))) => len_liv h
            rw [ord_len, show L + 1 - (t + 1) = L - t by omega, hq.out] at hlen
            clear hgt HH htL hle hfl hfu etn
            go_upto_region 28 with (first | (go_at_call 18; refine htk.mono ?_; rintro e3 w3 ⟨rfl, L3⟩; have L4 := hd (L3.bel (below_al w3 (.cells #[.int .i64 (L : Int), .int .i64 (L : Int)] 50))); clear L3))
            obtain ⟨w4, hw4⟩ : ∃ W, Hid (w3.alloc (.cells #[.int .i64 (L : Int), .int .i64 (L : Int)] 50) = W) := ⟨_, rfl⟩
            rw [hw4.out] at L4 ⊢
            have hl4 := hlen w4 L4.out
            go_wp2_with (first | (go_at_call 19; refine hl4.mono ?_; rintro e5 w4 ⟨rfl, rfl⟩))
            go_roundg (gk - 1)
            case measure => omega
            case rel => exact ⟨i + 1, t + 1, L + 1, n, moreL tk, rfl, by go_num, by go_num, by go_num, by omega, by omega, hd ⟨HO.out, L4.out, HGT.out⟩⟩
          · obtain rfl : L = n := by omega
            have htl : t < L := by omega
            rw [ord_take_alone htl] at htk hgt
            unfold tkV at htk
            simp only at htk hgt
            have HGT := hd hgt
            have HO : Hid (Ord room (t + 1) L L) := hd ⟨by omega, by omega, by omega, by omega, fun h => by omega⟩
            obtain ⟨q, hq⟩ : ∃ q, Hid (L - (t + 1) = q) := ⟨_, rfl⟩
            have hql : q ≤ room := by have := hq.out; omega
            have hsub : (L : Int) - ((t : Int) + 1) = (q : Int) := by have := hq.out; omega
            have hq0 : decide ((room : Int) < (q : Int)) = false := by simp; omega
            have hlen := fun W (h : Liv w.heap.size w W 60 b (ordS room (t + 1) L L (moreL tk))) => len_liv h
            rw [ord_len, hq.out] at hlen
            clear hgt HH htL hle hLn hfu etn hLlt
            go_upto_region 28 with (first | (go_at_call 18; refine htk.mono ?_; rintro e3 w3 ⟨rfl, L3⟩; have L4 := hd (L3.bel (below_al w3 (.cells #[.int .i64 0, .int .i64 0] 50))); clear L3))
            obtain ⟨w4, hw4⟩ : ∃ W, Hid (w3.alloc (.cells #[.int .i64 0, .int .i64 0] 50) = W) := ⟨_, rfl⟩
            rw [hw4.out] at L4 ⊢
            have hl4 := hlen w4 L4.out
            go_wp2_with (first | (go_at_call 19; refine hl4.mono ?_; rintro e5 w4 ⟨rfl, rfl⟩))
            go_roundg (gk - 1)
            case measure => omega
            case rel => exact ⟨i + 1, t + 1, L, L, moreL tk, rfl, by go_num, rfl, by go_num, by omega, by omega, hd ⟨HO.out, L4.out, HGT.out⟩⟩
    · have hltd : decide ((i : Int) < (l.length : Int)) = false := by simp; omega
      have he := end_liv HH.out.2.1 (by rw [ord_wlen]; omega)
      rw [ord_wlen] at he
      have hLn := HH.out.1.Ln
      have hsub : (n : Int) - (L : Int) = ((n - L : Nat) : Int) := by omega
      obtain ⟨m, hm⟩ : ∃ m, Hid (n - L = m) := ⟨_, rfl⟩
      rw [hm.out] at he hsub
      go_wp2_with (first | (go_at_call 20; refine he.mono ?_; rintro e3 w3 ⟨g, rfl, b3⟩))
      go_ret
      exact ⟨by first | rfl | simp, b3⟩
end Go.Proofs.Ythldnbikephncaa
