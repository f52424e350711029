/- heap.up, heap.down. -/
import Derived.Test.YthhcecllejddeaaGreatDoorGWa
import Derived.Deep.RegionLaw
import Derived.Maps.OwnSet
import Derived.RangeFuncNested
import Derived.RangeFuncBound
import Derived.RangeFuncCalls
import Derived.RangeFuncLeaves
import Derived.Shelf.RegionOpen
import Derived.OwnWalkIn
import Derived.TacticsInMore
import Derived.LoopNIn
import Derived.LoopIn
import Derived.Sort.MapsRangeIn
namespace Go.Proofs.YthhcecllejddeaaGreatDoor.Wheel
open Go.RowKit Go.Sort Go.Shelf
structure HpOut (w : World) (b m : Nat) (a : Option Addr) (c : Nat) (O : List Th) (w' : World) (O' : List Th) : Prop where
 hp : HpAt w' b m a c O'
 len : O'.length = O.length
 mem : ∀ x, x ∈ O' ↔ x ∈ O
 mod : Mod (fun k => blk a = some k) w w'
theorem HpOut.refl {w : World} {b m : Nat} {a : Option Addr} {c : Nat} {O : List Th} (h : HpAt w b m a c O) : HpOut w b m a c O w O := ⟨h, rfl, fun _ => Iff.rfl, Mod.refl _ _⟩
theorem HpOut.below {w w1 w2 : World} {b m : Nat} {a : Option Addr} {c : Nat} {O O' : List Th} (h : HpOut w b m a c O w1 O') (hb : Below w1.heap.size w1 w2) : HpOut w b m a c O w2 O' := ⟨h.hp.below hb, h.len, h.mem, h.mod.after hb⟩
theorem HpOut.swap {w w1 w2 : World} {b m : Nat} {a : Option Addr} {c : Nat} {O O' : List Th} {i j n : Nat} (h : HpOut w b m a c O w1 O') (hR : Row w2 205 2 a n c (wC (swL O' i j))) (hM : Mod (fun k => blk a = some k) w1 w2) (hn : n = O'.length) (hi : i < n) (hj : j < n) : HpOut w b m a c O w2 (swL O' i j) := by
 subst hn
 exact ⟨h.hp.over hM (by rw [swL_len]; exact hR) (swL_len _ _ _), by rw [swL_len]; exact h.len, fun x => (swL_mem hi hj x).trans (h.mem x), h.mod.trans hM (fun _ h => .inl h)⟩
set_option maxRecDepth 100000 in
set_option maxHeartbeats 1000000 in
theorem up_any {w : World} {b m : Nat} {a : Option Addr} {c n j0 : Nat} {O : List Th} (h : HpAt w b m a c O) (hn : O.length = n) (hj : j0 < n) (hU : UpI (tAt O) n j0) (hmax : n ≤ 8796093022208) :
  Calls Tryz.prog 176 #[.iface 237 (.pointer (some ⟨b, 1, none⟩)), .int .i64 (j0 : Int)] w fun e w' => e = .returned (.tuple #[]) ∧ ∃ O', HpOut w b m a c O w' O' ∧ Heap (tAt O') n := by
 have HH := hd h
 have HU := hd hU
 have HN := hd hn
 clear h hU hn
 have mL : ∀ W : World, W.cell? ⟨b, 1, none⟩ = some (.slice a n c) → Sem.run Tryz.prog (method 496 237 (.pointer (some ⟨b, 1, none⟩)) "Less") W = .ok (320, .slice a n c) W := fun W h => mLess h
 have mS : ∀ W : World, W.cell? ⟨b, 1, none⟩ = some (.slice a n c) → Sem.run Tryz.prog (method 496 237 (.pointer (some ⟨b, 1, none⟩)) "Swap") W = .ok (321, .slice a n c) W := fun W h => mSwap h
 have eL := eLess
 have eS := eSwap
 go_enter Tryz.func176, Tryz.ntmps176
 go_wp2_with fail
 go_loopg [1, 4] j0 (fun k v1 v4 wr => v1 = .int .i64 (k : Int) ∧ k < n ∧ Hid (∃ O', HpOut w b m a c O wr O' ∧ UpI (tAt O') n k))
 case atStart => exact ⟨rfl, hj, hd ⟨O, HpOut.refl HH.out, HU.out⟩⟩
 case round =>
  obtain ⟨rfl, hkn, HR⟩ := hrel
  obtain ⟨O', hO', hU'⟩ := HR.out
  have hl' : O'.length = n := by rw [hO'.len, HN.out]
  have hc1 := hO'.hp.c1
  have hrow := hO'.hp.row
  rw [hl'] at hc1 hrow
  have HO := hd hO'
  have HV := hd hU'
  have HL := hd hl'
  clear hO' hU' hl' HR HU HH
  by_cases hk0 : gk = 0
  ·subst hk0
   have HE : Hid (∃ O', HpOut w b m a c O wr O' ∧ Heap (tAt O') n) := hd ⟨O', HO.out, HV.out.done0⟩
   clear HO HV
   go_wp2_with fail
   go_end0
   exact ⟨rfl, HE.out⟩
  ·obtain ⟨p, hp⟩ : ∃ p, Hid (par gk = p) := ⟨_, rfl⟩
   have hpk : p < gk := by rw [← hp.out]; exact par_lt (by omega)
   have hq : ((gk : Int) - 1).tdiv 2 = (p : Int) := by
    rw [← hp.out, show ((gk : Int) - 1) = ((gk - 1 : Nat) : Int) by omega]
    exact (Int.ofNat_tdiv (gk - 1) 2).symm
   have hne : ((p : Int) == (gk : Int)) = false := by simp; omega
   have hk1 : 1 ≤ gk := by omega
   by_cases hlt : ltT (tAt O' gk) (tAt O' p)
   ·have hls := less_any (i := gk) (j := p) hrow (by omega) (by omega) true (by simpa using hlt)
    have HS : Hid (UpI (tAt (swL O' p gk)) n p) := hd (by
     rw [swL_fun (by rw [HL.out]; omega) (by rw [HL.out]; omega)]
     have := HV.out.step (by omega) hkn (by rw [hp.out]; exact hlt)
     rwa [hp.out] at this)
    have hsw : ∀ W : World, Below wr.heap.size wr W → Calls Tryz.prog 321 #[.slice a n c, .int .i64 (p : Int), .int .i64 (gk : Int)] W fun e w' => e = .returned (.tuple #[]) ∧ Row w' 205 2 a n c (wC (swL O' p gk)) ∧ Mod (fun k => blk a = some k) W w' := fun W hb => swap_any (hrow.below hb) (by omega) hkn
    have HK : Hid (∀ W : World, Below wr.heap.size wr W → W.cell? ⟨b, 1, none⟩ = some (.slice a n c)) := hd (fun W hb => by rw [hb.cell (p := ⟨b, 1, none⟩) HO.out.hp.blt]; exact hc1)
    have HF : Hid (∀ w1 w2 : World, Below wr.heap.size wr w1 → Row w2 205 2 a n c (wC (swL O' p gk)) → Mod (fun k => blk a = some k) w1 w2 → HpOut w b m a c O w2 (swL O' p gk)) := hd (fun w1 w2 hb hR hM => (HO.out.below hb).swap hR hM HL.out.symm (by omega) hkn)
    clear hk0 hlt HV HO hrow
    go_wp2_with (first
     | (go_at_call 320; refine hls.mono ?_; rintro e1 w1 ⟨rfl, b1⟩; have hc2 := HK.out w1 b1)
     | (go_at_call 321; refine (hsw _ b1).mono ?_; rintro e2 w2 ⟨rfl, r2, m2⟩))
    go_roundg p
    case measure => exact hpk
    case rel => exact ⟨rfl, by omega, hd ⟨_, HF.out _ _ b1 r2 m2, HS.out⟩⟩
   ·have hls := less_any (i := gk) (j := p) hrow (by omega) (by omega) false (by simpa using hlt)
    have HE : Hid (∃ O', HpOut w b m a c O wr O' ∧ Heap (tAt O') n) := hd ⟨O', HO.out, HV.out.done (by rw [hp.out]; exact hlt)⟩
    clear hk0 hlt HO HV
    go_wp2_with (first | (go_at_call 320; refine hls.mono ?_; rintro e1 w1 ⟨rfl, b1⟩))
    go_end0
    obtain ⟨O2, h1, h2⟩ := HE.out
    exact ⟨rfl, O2, h1.below b1, h2⟩
end Go.Proofs.YthhcecllejddeaaGreatDoor.Wheel

namespace Go.Proofs.YthhcecllejddeaaGreatDoor.Wheel
open Go.RowKit Go.Sort Go.Shelf
theorem sw_far {f : Nat → Th} {i j c n : Nat} (hi : i < n) (hj : j < n) (hc : n ≤ c) : sw f i j c = f c := by unfold sw; rw [if_neg (by omega), if_neg (by omega)]
set_option maxRecDepth 100000 in
set_option maxHeartbeats 2000000 in
theorem down_any {w : World} {b m : Nat} {a : Option Addr} {c n nn : Nat} {O : List Th} (h : HpAt w b m a c O) (hn : O.length = nn) (hle : n ≤ nn) (hU : DnI (tAt O) n 0) (hmax : nn ≤ 8796093022208) :
  Calls Tryz.prog 227 #[.iface 237 (.pointer (some ⟨b, 1, none⟩)), .int .i64 0, .int .i64 (n : Int)] w fun e w' => (∃ B, e = .returned (.bool B)) ∧ ∃ O', HpOut w b m a c O w' O' ∧ Heap (tAt O') n ∧ ∀ k, n ≤ k → tAt O' k = tAt O k := by
 have HH := hd h
 have HU := hd hU
 have HN := hd hn
 clear h hU hn
 have mL : ∀ W : World, W.cell? ⟨b, 1, none⟩ = some (.slice a nn c) → Sem.run Tryz.prog (method 496 237 (.pointer (some ⟨b, 1, none⟩)) "Less") W = .ok (320, .slice a nn c) W := fun W h => mLess h
 have mS : ∀ W : World, W.cell? ⟨b, 1, none⟩ = some (.slice a nn c) → Sem.run Tryz.prog (method 496 237 (.pointer (some ⟨b, 1, none⟩)) "Swap") W = .ok (321, .slice a nn c) W := fun W h => mSwap h
 have eL := eLess
 have eS := eSwap
 go_enter Tryz.func227, Tryz.ntmps227
 go_wp2_with fail
 go_loopg [7, 8, 9, 10] n (fun k v7 v8 v9 v10 wr => ∃ i : Nat, v7 = .int .i64 (i : Int) ∧ i + k = n ∧ Hid (∃ O', HpOut w b m a c O wr O' ∧ DnI (tAt O') n i ∧ ∀ k, n ≤ k → tAt O' k = tAt O k))
 case atStart => exact ⟨0, rfl, by omega, hd ⟨O, HpOut.refl HH.out, HU.out, fun _ _ => rfl⟩⟩
 case round =>
  obtain ⟨i, rfl, hik, HR⟩ := hrel
  obtain ⟨O', hO', hU', hF'⟩ := HR.out
  have hl' : O'.length = nn := by rw [hO'.len, HN.out]
  have hc1 := hO'.hp.c1
  have hrow := hO'.hp.row
  rw [hl'] at hc1 hrow
  have HO := hd hO'
  have HV := hd hU'
  have HX := hd hF'
  have HL := hd hl'
  clear hO' hU' hl' HR HU HH hF'
  have HK : Hid (∀ W : World, Below wr.heap.size wr W → W.cell? ⟨b, 1, none⟩ = some (.slice a nn c)) := hd (fun W hb => by rw [hb.cell (p := ⟨b, 1, none⟩) HO.out.hp.blt]; exact hc1)
  obtain ⟨j1, hj1⟩ : ∃ j1 : Nat, Hid (2 * i + 1 = j1) := ⟨_, rfl⟩
  have e1 : (2 : Int) * (i : Int) + 1 = (j1 : Int) := by have := hj1.out; omega
  have hin : i ≤ n := by omega
  by_cases h1 : j1 < n
  ·obtain ⟨j2, hj2⟩ : ∃ j2 : Nat, Hid (j1 + 1 = j2) := ⟨_, rfl⟩
   have e2 : (j1 : Int) + 1 = (j2 : Int) := by have := hj2.out; omega
   have h1' : (j1 : Int) < (n : Int) := by omega
   have hj2b : j2 ≤ n := by have := hj2.out; omega
   have hi1 : i < j1 := by have := hj1.out; omega
   have hp1 : par j1 = i := (par_child (by omega)).2 (.inl hj1.out.symm)
   have hp2 : par j2 = i := (par_child (by omega)).2 (.inr (by have := hj1.out; have := hj2.out; omega))
   have hch : ∀ x, 0 < x → x < n → par x = i → x = j1 ∨ x = j2 := fun x h0 _ hx => by
    have := (par_child h0).1 hx
    have := hj1.out
    have := hj2.out
    omega
   have HSW : Hid (∀ j, j < n → i < n → ∀ W : World, Below wr.heap.size wr W → Calls Tryz.prog 321 #[.slice a nn c, .int .i64 (i : Int), .int .i64 (j : Int)] W fun e w' => e = .returned (.tuple #[]) ∧ Row w' 205 2 a nn c (wC (swL O' i j)) ∧ Mod (fun k => blk a = some k) W w') := hd (fun j hj hi W hb => swap_any (hrow.below hb) (by omega) (by omega))
   have HLS : Hid (∀ x y, x < n → y < n → ∀ B : Bool, B = decide (ltT (tAt O' x) (tAt O' y)) → ∀ W : World, Below wr.heap.size wr W → Calls Tryz.prog 320 #[.slice a nn c, .int .i64 (x : Int), .int .i64 (y : Int)] W fun e w' => e = .returned (.bool B) ∧ Below W.heap.size W w') := hd (fun x y hx hy B hB W hb => less_any (hrow.below hb) (by omega) (by omega) B hB)
   have HEND : Hid (∀ j, (∀ x, 0 < x → x < n → par x = i → ¬ ltT (tAt O' x) (tAt O' j)) → ¬ ltT (tAt O' j) (tAt O' i) → ∀ W : World, Below wr.heap.size wr W → ∃ O', HpOut w b m a c O W O' ∧ Heap (tAt O') n ∧ ∀ k, n ≤ k → tAt O' k = tAt O k) := hd (fun j hm hl W hb => ⟨O', HO.out.below hb, HV.out.done hm hl, HX.out⟩)
   have HGO : Hid (∀ j, 0 < j → j < n → par j = i → (∀ x, 0 < x → x < n → par x = i → ¬ ltT (tAt O' x) (tAt O' j)) → ltT (tAt O' j) (tAt O' i) → ∀ w1 w2 : World, Below wr.heap.size wr w1 → Row w2 205 2 a nn c (wC (swL O' i j)) → Mod (fun k => blk a = some k) w1 w2 → ∃ O', HpOut w b m a c O w2 O' ∧ DnI (tAt O') n j ∧ ∀ k, n ≤ k → tAt O' k = tAt O k) := hd (fun j h0 hj hp hm hl w1 w2 hb hR hM => by
    have hij := par_lt h0
    rw [hp] at hij
    refine ⟨swL O' i j, (HO.out.below hb).swap hR hM HL.out.symm (by omega) (by omega), ?_, fun k hk => ?_⟩
    ·rw [swL_fun (by rw [HL.out]; omega) (by rw [HL.out]; omega)]
     exact HV.out.step h0 hj hp hm hl
    ·rw [swL_fun (by rw [HL.out]; omega) (by rw [HL.out]; omega), sw_far (n := n) (by omega) hj hk]
     exact HX.out k hk)
   have hi2 : i < n := by omega
   clear HO HV HX hrow HL
   by_cases h2 : j2 < n
   ·have h2' : (j2 : Int) < (n : Int) := by omega
    by_cases hmn : ltT (tAt O' j2) (tAt O' j1)
    ·have ls1 := HLS.out j2 j1 h2 h1 true (by simpa using hmn)
     have hmm : ∀ x, 0 < x → x < n → par x = i → ¬ ltT (tAt O' x) (tAt O' j2) := fun x h0 hx hp => by
      rcases hch x h0 hx hp with rfl | rfl
      ·exact ltT_asymm hmn
      ·exact ltT_irrefl _
     have HMM := hd hmm
     clear hmm
     by_cases hl : ltT (tAt O' j2) (tAt O' i)
     ·have ls2 := HLS.out j2 i h2 hi2 true (by simpa using hl)
      have hsw := HSW.out j2 h2 hi2
      have HG := hd (HGO.out j2 (by omega) h2 hp2 (HMM.out) hl)
      clear hl HSW HLS HEND HGO hch hp1 hp2 hj1 hj2 hmn
      have bz := below_same wr
      go_upto_region 8 with (go_at_call 320; refine (ls1 _ bz).mono ?_; rintro e1 w1 ⟨rfl, b1⟩; have hc2 := HK.out w1 b1)
      go_wp2_with (first
       | (go_at_call 320; refine (ls2 _ b1).mono ?_; rintro e2 w2 ⟨rfl, b2⟩; replace b2 := Below.trans b1 (b2.mono b1.size); have hc3 := HK.out w2 b2)
       | (go_at_call 321; refine (hsw _ b2).mono ?_; rintro e3 w3 ⟨rfl, r3, m3⟩))
      go_roundg (n - j2)
      case measure => omega
      case rel => exact ⟨j2, rfl, by omega, hd (HG.out _ _ b2 r3 m3)⟩
     ·have ls2 := HLS.out j2 i h2 hi2 false (by simpa using hl)
      have HE := hd (HEND.out j2 (HMM.out) hl)
      clear hl HSW HLS HEND HGO hch hp1 hp2 hj1 hj2 hmn
      have bz := below_same wr
      go_upto_region 8 with (go_at_call 320; refine (ls1 _ bz).mono ?_; rintro e1 w1 ⟨rfl, b1⟩; have hc2 := HK.out w1 b1)
      go_wp2_with (first
       | (go_at_call 320; refine (ls2 _ b1).mono ?_; rintro e2 w2 ⟨rfl, b2⟩; replace b2 := Below.trans b1 (b2.mono b1.size); have hc3 := HK.out w2 b2))
      go_ret
      exact ⟨⟨_, rfl⟩, HE.out _ b2⟩
    ·have ls1 := HLS.out j2 j1 h2 h1 false (by simpa using hmn)
     have hmm : ∀ x, 0 < x → x < n → par x = i → ¬ ltT (tAt O' x) (tAt O' j1) := fun x h0 hx hp => by
      rcases hch x h0 hx hp with rfl | rfl
      ·exact ltT_irrefl _
      ·exact hmn
     have HMM := hd hmm
     clear hmm
     by_cases hl : ltT (tAt O' j1) (tAt O' i)
     ·have ls2 := HLS.out j1 i h1 hi2 true (by simpa using hl)
      have hsw := HSW.out j1 h1 hi2
      have HG := hd (HGO.out j1 (by omega) h1 hp1 (HMM.out) hl)
      clear hl HSW HLS HEND HGO hch hp1 hp2 hj1 hj2 hmn
      have bz := below_same wr
      go_upto_region 8 with (go_at_call 320; refine (ls1 _ bz).mono ?_; rintro e1 w1 ⟨rfl, b1⟩; have hc2 := HK.out w1 b1)
      go_wp2_with (first
       | (go_at_call 320; refine (ls2 _ b1).mono ?_; rintro e2 w2 ⟨rfl, b2⟩; replace b2 := Below.trans b1 (b2.mono b1.size); have hc3 := HK.out w2 b2)
       | (go_at_call 321; refine (hsw _ b2).mono ?_; rintro e3 w3 ⟨rfl, r3, m3⟩))
      go_roundg (n - j1)
      case measure => omega
      case rel => exact ⟨j1, rfl, by omega, hd (HG.out _ _ b2 r3 m3)⟩
     ·have ls2 := HLS.out j1 i h1 hi2 false (by simpa using hl)
      have HE := hd (HEND.out j1 (HMM.out) hl)
      clear hl HSW HLS HEND HGO hch hp1 hp2 hj1 hj2 hmn
      have bz := below_same wr
      go_upto_region 8 with (go_at_call 320; refine (ls1 _ bz).mono ?_; rintro e1 w1 ⟨rfl, b1⟩; have hc2 := HK.out w1 b1)
      go_wp2_with (first
       | (go_at_call 320; refine (ls2 _ b1).mono ?_; rintro e2 w2 ⟨rfl, b2⟩; replace b2 := Below.trans b1 (b2.mono b1.size); have hc3 := HK.out w2 b2))
      go_ret
      exact ⟨⟨_, rfl⟩, HE.out _ b2⟩
   ·have h2' : decide ((j2 : Int) < (n : Int)) = false := by simp; omega
    have hmm : ∀ x, 0 < x → x < n → par x = i → ¬ ltT (tAt O' x) (tAt O' j1) := fun x h0 hx hp => by
     rcases hch x h0 hx hp with rfl | rfl
     ·exact ltT_irrefl _
     ·omega
    have HMM := hd hmm
    clear hmm
    by_cases hl : ltT (tAt O' j1) (tAt O' i)
    ·have ls2 := HLS.out j1 i h1 hi2 true (by simpa using hl)
     have hsw := HSW.out j1 h1 hi2
     have HG := hd (HGO.out j1 (by omega) h1 hp1 (HMM.out) hl)
     clear hl HSW HLS HEND HGO hch hp1 hp2 hj1 hj2
     have bz := below_same wr
     go_wp2_with (first
      | (go_at_call 320; refine (ls2 _ bz).mono ?_; rintro e2 w2 ⟨rfl, b2⟩; replace b2 := Below.trans bz (b2.mono bz.size); have hc3 := HK.out w2 b2)
      | (go_at_call 321; refine (hsw _ b2).mono ?_; rintro e3 w3 ⟨rfl, r3, m3⟩))
     go_roundg (n - j1)
     case measure => omega
     case rel => exact ⟨j1, rfl, by omega, hd (HG.out _ _ b2 r3 m3)⟩
    ·have ls2 := HLS.out j1 i h1 hi2 false (by simpa using hl)
     have HE := hd (HEND.out j1 (HMM.out) hl)
     clear hl HSW HLS HEND HGO hch hp1 hp2 hj1 hj2
     have bz := below_same wr
     go_wp2_with (first
      | (go_at_call 320; refine (ls2 _ bz).mono ?_; rintro e2 w2 ⟨rfl, b2⟩; replace b2 := Below.trans bz (b2.mono bz.size); have hc3 := HK.out w2 b2))
     go_ret
     exact ⟨⟨_, rfl⟩, HE.out _ b2⟩
  ·have h1' : (n : Int) ≤ (j1 : Int) := by omega
   have HE : Hid (∃ O', HpOut w b m a c O wr O' ∧ Heap (tAt O') n ∧ ∀ k, n ≤ k → tAt O' k = tAt O k) := hd ⟨O', HO.out, HV.out.done0 (by have := hj1.out; omega), HX.out⟩
   clear HO HV HX
   go_wp2_with fail
   go_ret
   exact ⟨⟨_, rfl⟩, HE.out⟩
end Go.Proofs.YthhcecllejddeaaGreatDoor.Wheel

namespace Go.Proofs.YthhcecllejddeaaGreatDoor.Wheel
open Go.RowKit Go.Sort Go.Shelf
structure HpTo (w : World) (b m : Nat) (a : Option Addr) (w' : World) (a' : Option Addr) (c' : Nat) (O' : List Th) : Prop where
 hp : HpAt w' b m a' c' O'
 mod : Mod (fun k => k = b ∨ blk a = some k) w w'
 new : ∀ k, blk a' = some k → blk a = some k ∨ w.heap.size ≤ k
theorem HpTo.trans {w w1 w2 : World} {b m : Nat} {a a1 a2 : Option Addr} {c1 c2 : Nat} {O1 O2 : List Th} (h : HpTo w b m a w1 a1 c1 O1) (k : HpTo w1 b m a1 w2 a2 c2 O2) : HpTo w b m a w2 a2 c2 O2 :=
 ⟨k.hp, h.mod.trans k.mod (fun i hi => by
  rcases hi with rfl | hi
  ·exact .inl (.inl rfl)
  ·rcases h.new i hi with h1 | h1
   ·exact .inl (.inr h1)
   ·exact .inr h1), fun i hi => by
  rcases k.new i hi with h1 | h1
  ·exact h.new i h1
  ·exact .inr (by have := h.mod.size; omega)⟩
theorem HpTo.below {w w1 w2 : World} {b m : Nat} {a a1 : Option Addr} {c1 : Nat} {O1 : List Th} (h : HpTo w b m a w1 a1 c1 O1) (hb : Below w1.heap.size w1 w2) : HpTo w b m a w2 a1 c1 O1 := ⟨h.hp.below hb, h.mod.after hb, h.new⟩
theorem HpTo.ofBelow {w w1 w2 : World} {b m : Nat} {a a1 : Option Addr} {c1 : Nat} {O1 : List Th} (hb : Below w.heap.size w w1) (h : HpTo w1 b m a w2 a1 c1 O1) : HpTo w b m a w2 a1 c1 O1 := ⟨h.hp, (Mod.of_below _ hb).trans h.mod (fun _ h => .inl h), fun k hk => by
 rcases h.new k hk with h1 | h1
 ·exact .inl h1
 ·exact .inr (by have := hb.size; omega)⟩
theorem HpOut.to {w w' : World} {b m : Nat} {a : Option Addr} {c : Nat} {O O' : List Th} (h : HpOut w b m a c O w' O') : HpTo w b m a w' a c O' := ⟨h.hp, h.mod.mono (fun _ _ h => .inr h), fun _ h => .inl h⟩
theorem assertT (t1 t2 : Int) (w : World) : Sem.run Tryz.prog (Instr.typeAssert (.iface 205 (.agg #[.int .i64 t1, .int .i64 t2])) 20 205 true) w = .ok (.tuple #[.agg #[.int .i64 t1, .int .i64 t2], .bool true]) w := by kernel_rfl
set_option maxRecDepth 100000 in
set_option maxHeartbeats 1000000 in
theorem tpush_any {w : World} {b m : Nat} {a : Option Addr} {c n : Nat} {O : List Th} (h : HpAt w b m a c O) (hn : O.length = n) (hmax : n < 8796093022208) (t : Th) :
  Calls Tryz.prog 323 #[.pointer (some ⟨b, 1, none⟩), .iface 205 (.agg #[.int .i64 t.1, .int .i64 t.2])] w fun e w' => e = .returned (.tuple #[]) ∧ ∃ a' c', HpTo w b m a w' a' c' (O ++ [t]) := by
 obtain ⟨t1, t2⟩ := t
 have hcell : Hid (∀ W : World, Below w.heap.size w W → W.cell? ⟨b, 1, none⟩ = some (.slice a n c)) := hd (fun W hb => by rw [hb.cell (p := ⟨b, 1, none⟩) h.blt, ← hn]; exact h.c1)
 have HH := hd h
 have HN := hd hn
 clear h hn
 simp only
 go_enter Tryz.func323, Tryz.ntmps323
 have hta := assertT t1 t2 w
 go_upto_region 2 with fail
 obtain ⟨w1, hw1⟩ : ∃ W, Hid (w.alloc (.cells #[.int .i64 t1, .int .i64 t2] 205) = W) := ⟨_, rfl⟩
 have HB1 : Hid (Below w.heap.size w w1) := hd (by rw [← hw1.out]; exact below_al w _)
 have x0 : w1.cell? ⟨w.heap.size, 0, none⟩ = some (.int .i64 t1) := by rw [← hw1.out]; simp
 have x1 : w1.cell? ⟨w.heap.size, 1, none⟩ = some (.int .i64 t2) := by rw [← hw1.out]; simp
 have hsz : w.heap.size < w1.heap.size := by rw [← hw1.out]; simp
 rw [hw1.out]
 obtain ⟨G, hG⟩ : ∃ G, Hid (w.heap.size = G) := ⟨_, rfl⟩
 rw [hG.out] at x0 x1 hsz ⊢
 have hcb := hcell.out w1 HB1.out
 have hH1 := HH.out.below HB1.out
 have hmx : (n + 1) * 16 ≤ 140737488355328 := by omega
 obtain ⟨a', c', w8, hap, R8, M8, B8⟩ := push_any (w := w1.drew) (T := 209) (e := 205) (z := .agg #[.int .i64 0, .int .i64 0]) (size := 2) (bytes := 16) Tryz.underlying209 infoT rfl (hH1.below ((Below.refl _ w1).drew)).row (by rw [HN.out]; unfold maxLen; omega) (by rw [HN.out]; exact hmx) [.int .i64 t1, .int .i64 t2] rfl (by simp [Value.oneCell'])
 rw [HN.out] at hap R8
 have hap : Hid (∀ ty, (Builtin.append_ #[209, 209] ty #[.slice a n c, .slice (some ⟨w1.heap.size, 0, none⟩) 1 1]).run Tryz.prog (w1.alloc (.cells #[.int .i64 t1, .int .i64 t2] 205)).drew = .ok (.slice a' (n + 1) c') w8) := hd hap
 have hnb : ¬ blk a = some b := fun e => HH.out.ne b e rfl
 have z1 : w8.cell? ⟨b, 1, none⟩ = some (.slice a n c) := by
  rw [M8.cell (p := ⟨b, 1, none⟩) hH1.blt hnb]
  exact hcb
 have z2 : w8.frozen? ⟨b, 1, none⟩ = false := by
  rw [M8.frozen (p := ⟨b, 1, none⟩) hH1.blt hnb]
  exact hH1.free 1
 have y1 : (w1.alloc (.cells #[.int .i64 t1, .int .i64 t2] 205)).cell? ⟨b, 1, none⟩ = some (.slice a n c) := ((below_al w1 _).cell (p := ⟨b, 1, none⟩) hH1.blt).trans hcb
 have HE : Hid (HpTo w b m a (w8.setCell ⟨b, 1, none⟩ (.slice a' (n + 1) c')) a' c' (O ++ [(t1, t2)])) := hd (HpTo.ofBelow HB1.out (by
  have hobj : w8.heap[b]? = some (.cells #[.map (some m), .slice a O.length c] 211 (0, 0)) := by rw [M8.block b hH1.blt hnb]; exact hH1.obj
  have hnew : ∀ k, blk a' = some k → k ≠ b := fun k hk => by
   rcases B8 k hk with h1 | h1
   ·exact HH.out.ne k h1
   ·have := hH1.blt
    have : w1.drew.heap.size = w1.heap.size := rfl
    omega
  refine ⟨HpAt.lay hobj (by rw [wC_app]; exact R8) (by simp [HN.out]) hnew, ?_, B8⟩
  exact ((Mod.of_below _ ((Below.refl _ w1).drew)).trans M8 (fun k hk => .inl (.inr hk))).setCell (.inl (.inl rfl)) _))
 clear R8 M8 B8 hH1 hnb hmx hta
 go_region_law ((refine step_append_run (by rfl) _ _ _ (by rfl) _ _ _ _ (by rfl) (by rfl) hap.out ?_))
 all_goals go_end0
 all_goals exact ⟨rfl, a', c', HE.out⟩
set_option maxRecDepth 100000 in
set_option maxHeartbeats 1000000 in
theorem hpush_any {w : World} {b m : Nat} {a : Option Addr} {c n : Nat} {O : List Th} (h : HpAt w b m a c O) (hn : O.length = n) (hmax : n < 8796093022208) (hH : Heap (tAt O) n) (t : Th) :
  Calls Tryz.prog 132 #[.iface 237 (.pointer (some ⟨b, 1, none⟩)), .iface 205 (.agg #[.int .i64 t.1, .int .i64 t.2])] w fun e w' => e = .returned (.tuple #[]) ∧ ∃ a' c' O', HpTo w b m a w' a' c' O' ∧ Heap (tAt O') (n + 1) ∧ O'.length = n + 1 ∧ ∀ x, x ∈ O' ↔ x ∈ O ∨ x = t := by
 have hp := tpush_any h hn hmax t
 have HN := hd hn
 have HH := hd hH
 clear h hn hH
 have mP := mPush ⟨b, 1, none⟩
 have eP := ePush
 have eL := eLen
 go_enter Tryz.func132, Tryz.ntmps132
 go_upto_region 1 with (go_at_call 323; refine hp.mono ?_; rintro e1 w1 ⟨rfl, a1, c1, hT⟩)
 clear hp
 have hlen : (O ++ [t]).length = n + 1 := by simp [HN.out]
 have hU := up_any (n := n + 1) (j0 := n) hT.hp hlen (by omega) (UpI.push HH.out (fun i hi => tAt_app_left (by rw [HN.out]; exact hi))) (by omega)
 have hc1 := hT.hp.c1
 rw [hlen] at hc1
 have mL := mLen hc1
 have hle := @tlen_any a1 (n + 1) c1 w1
 have HT := hd hT
 clear hT hlen
 go_wp2_with (first
  | (go_at_call 319; refine hle.mono ?_; rintro e2 w2 ⟨rfl, rfl⟩)
  | (go_at_call 176; refine hU.mono ?_; rintro e3 w3 ⟨rfl, O', hO, hh⟩))
 go_end0
 refine ⟨rfl, a1, c1, O', HT.out.trans hO.to, hh, by rw [hO.len]; simp [HN.out], fun x => (hO.mem x).trans (by simp)⟩
set_option maxRecDepth 100000 in
set_option maxHeartbeats 1000000 in
theorem tpop_any {w : World} {b m : Nat} {a : Option Addr} {c n : Nat} {O : List Th} (h : HpAt w b m a c O) (hn : O.length = n + 1) (hmax : n < 8796093022208) :
  Calls Tryz.prog 322 #[.pointer (some ⟨b, 1, none⟩)] w fun e w' => (∃ v, e = .returned v) ∧ HpTo w b m a w' a c (O.take n) := by
 obtain ⟨g, rfl, x0, x1⟩ := row_t h.row n (by omega)
 have hcap : n + 1 ≤ c := by rw [← hn]; exact h.row.capLe
 have hc1 := h.c1
 rw [hn] at hc1
 have hfr := h.free 1
 have HE : Hid (∀ W : World, Below w.heap.size w W → HpTo w b m (some ⟨g, 0, none⟩) (W.setCell ⟨b, 1, none⟩ (.slice (some ⟨g, 0, none⟩) n c)) (some ⟨g, 0, none⟩) c (O.take n)) := hd (fun W hb => by
  have hW := h.below hb
  refine ⟨HpAt.lay hW.obj ?_ (by simp [hn]) hW.ne, (Mod.of_below _ hb).setCell (.inl (.inl rfl)) _, fun _ h => .inl h⟩
  have := hW.row.cut n c (by omega) (by omega) (Nat.le_refl _) (fun e => by cases e)
  rwa [wC_take] at this)
 have hgl := h.lt g rfl
 have hbl := h.blt
 have hgb := h.ne g rfl
 clear h hn
 generalize (tAt O n).1 = t1 at *
 generalize (tAt O n).2 = t2 at *
 go_enter Tryz.func322, Tryz.ntmps322
 go_wp2_with fail
 go_ret
 exact ⟨⟨_, rfl⟩, (HE.out w (below_same w)).below (below_al _ _)⟩
theorem pop_mem {O O1 O2 : List Th} {n : Nat} (hl : O.length = n + 1) (h1 : O1 = swL O 0 n) (hm : ∀ x, x ∈ O2 ↔ x ∈ O1) (hl2 : O2.length = n + 1) (hfar : tAt O2 n = tAt O1 n) (x : Th) : x ∈ O → x ∈ O2.take n ∨ x = tAt O 0 := by
 intro hx
 have h2 : x ∈ O2 := by rw [hm, h1, swL_mem (by omega) (by omega)]; exact hx
 obtain ⟨i, hi, e⟩ := mem_tAt h2
 by_cases hin : i < n
 ·left
  rw [← e, ← tAt_take hin]
  exact tAt_mem (by simp; omega)
 ·right
  have : i = n := by omega
  subst this
  rw [← e, hfar, h1, swL_at (by omega) (by omega)]
  unfold sw
  rw [if_pos rfl]
set_option maxRecDepth 100000 in
set_option maxHeartbeats 1000000 in
theorem hpop_any {w : World} {b m : Nat} {a : Option Addr} {c n : Nat} {O : List Th} (h : HpAt w b m a c O) (hn : O.length = n + 1) (hmax : n < 8796093022208) (hH : Heap (tAt O) (n + 1)) :
  Calls Tryz.prog 181 #[.iface 237 (.pointer (some ⟨b, 1, none⟩))] w fun e w' => (∃ v, e = .returned v) ∧ ∃ O', HpTo w b m a w' a c O' ∧ Heap (tAt O') n ∧ O'.length = n ∧ (∀ x ∈ O', x ∈ O) ∧ ∀ x ∈ O, x ∈ O' ∨ x = tAt O 0 := by
 have hc1 := h.c1
 rw [hn] at hc1
 have hrow := h.row
 rw [hn] at hrow
 have mL := mLen hc1
 have mS := mSwap hc1
 have hle := @tlen_any a (n + 1) c w
 have hsw := swap_any (i := 0) (j := n) hrow (by omega) (by omega)
 have HN := hd hn
 have HH := hd h
 have HP := hd hH
 clear h hn hH hrow
 have eL := eLen
 have eS := eSwap
 have eP := ePop
 have mP := mPop ⟨b, 1, none⟩
 go_enter Tryz.func181, Tryz.ntmps181
 go_upto_region 3 with (first
  | (go_at_call 319; refine hle.mono ?_; rintro e2 w ⟨rfl, rfl⟩)
  | (go_at_call 321; refine hsw.mono ?_; rintro e3 w3 ⟨rfl, r3, m3⟩))
 have h3 : HpOut w b m a c O w3 (swL O 0 n) := (HpOut.refl HH.out).swap r3 m3 HN.out.symm (by omega) (by omega)
 have hl3 : (swL O 0 n).length = n + 1 := by rw [swL_len, HN.out]
 have hdn : DnI (tAt (swL O 0 n)) n 0 := DnI.pop HP.out (fun i h0 hi => by
  rw [swL_at (by rw [HN.out]; omega) (by rw [HN.out]; omega)]
  unfold sw
  rw [if_neg (by omega), if_neg (by omega)])
 have hD := down_any h3.hp hl3 (n := n) (by omega) hdn (by omega)
 have H3 := hd h3
 clear h3 hdn r3 m3 mS hle hsw mL hc1
 go_upto_region 4 with (first | (go_at_call 227; refine hD.mono ?_; rintro e4 w4 ⟨⟨B, rfl⟩, O4, h4, hh4, hf4⟩))
 have hl4 : O4.length = n + 1 := by rw [h4.len, hl3]
 have hT := tpop_any h4.hp hl4 hmax
 have HE : Hid (∀ w5, HpTo w4 b m a w5 a c (O4.take n) → ∃ O', HpTo w b m a w5 a c O' ∧ Heap (tAt O') n ∧ O'.length = n ∧ (∀ x ∈ O', x ∈ O) ∧ ∀ x ∈ O, x ∈ O' ∨ x = tAt O 0) := hd (fun w5 h5 => by
  refine ⟨O4.take n, (H3.out.to.trans h4.to).trans h5, fun k h0 hk => ?_, by simp [hl4], fun x hx => ?_, pop_mem HN.out rfl h4.mem hl4 (hf4 n (Nat.le_refl _))⟩
  ·have hp := par_lt h0
   rw [tAt_take hk, tAt_take (by omega)]
   exact hh4 k h0 hk
  ·have := List.mem_of_mem_take hx
   rw [h4.mem, swL_mem (by rw [HN.out]; omega) (by rw [HN.out]; omega)] at this
   exact this)
 clear h4 hh4 hf4 hl4 hD H3 hl3
 go_wp2_with (first | (go_at_call 322; refine hT.mono ?_; rintro e5 w5 ⟨⟨v, rfl⟩, h5⟩))
 go_ret
 exact ⟨⟨_, rfl⟩, HE.out _ h5⟩
end Go.Proofs.YthhcecllejddeaaGreatDoor.Wheel

namespace Go.Proofs.YthhcecllejddeaaGreatDoor.Wheel
open Go.RowKit Go.Sort Go.Shelf Go.Maps
attribute [local go_sem] Oper.semAt_some
theorem lawInt : Keyed Tryz.prog 3 := int_keyed Tryz.underlying3
def Fit64 (x : Int) : Prop := -9223372036854775808 ≤ x ∧ x ≤ 9223372036854775807
theorem key_int {x : Int} (h : Fit64 x) : keyOf Tryz.prog 3 (.int .i64 x) = some (.int .i64 x) := keyOf_int_mk Tryz.underlying3 (WalkArith.wf_i64 h)
def thD (t : Th) : DataW Unit := .agg [.lit (.int .i64 t.1), .lit (.int .i64 t.2)]
def thV (t : Th) : Value := .agg #[.int .i64 t.1, .int .i64 t.2]
def thElem : Value → Option (DataW Unit × List MemPlace)
 | .agg cs => match cs.toList with
  | [.int .i64 a, .int .i64 b] => some (thD (a, b), [])
  | _ => none
 | _ => none
theorem thElem_mk (t : Th) : thElem (thV t) = some (thD t, []) := rfl
theorem thElem_inv {v : Value} {z : DataW Unit × List MemPlace} (h : thElem v = some z) : ∃ t, v = thV t ∧ z = (thD t, []) := by
 unfold thElem at h
 split at h
 ·rename_i cs
  split at h
  ·rename_i a b e
   refine ⟨(a, b), ?_, (Option.some.inj h).symm⟩
   unfold thV
   congr 1
   exact Array.toList_inj.1 e
  ·cases h
 ·cases h
theorem thD_inj {s t : Th} (h : thD s = thD t) : s = t := by
 unfold thD at h
 injection h with h
 injection h with h1 h2
 injection h2 with h2 _
 injection h1 with h1
 injection h1 with _ h1
 injection h2 with h2
 injection h2 with _ h2
 exact Prod.ext h1 h2
theorem thV_inj {s t : Th} (h : thV s = thV t) : s = t := by
 have := thElem_mk s
 rw [h, thElem_mk] at this
 exact (thD_inj (Prod.mk.inj (Option.some.inj this)).1).symm
structure MapOf (val : Th → DataW Unit) (D : DataW Unit) (L : List Th) : Prop where
 tidy : Tidy D
 size : Maps.size D = L.length
 at' : ∀ t ∈ L, ∀ zd, D.atKey (.int .i64 t.2) zd = val t
 has : ∀ id, Maps.has D (.int .i64 id) = isSet id L
theorem MapOf.nil (val : Th → DataW Unit) : MapOf val (.map []) [] := ⟨tidy_empty, rfl, fun _ h => absurd h List.not_mem_nil, fun _ => rfl⟩
theorem isSet_clr {id i : Int} {L : List Th} : isSet i (clr id L) = (isSet i L && i != id) := by
 rw [Bool.eq_iff_iff, Bool.and_eq_true, isSet_iff, isSet_iff]
 constructor
 ·rintro ⟨t, ht, rfl⟩
  have := clr_mem.1 ht
  exact ⟨⟨t, this.1, rfl⟩, by simpa using this.2⟩
 ·rintro ⟨⟨t, ht, rfl⟩, h2⟩
  exact ⟨t, clr_mem.2 ⟨ht, by simpa using h2⟩, rfl⟩
theorem isSet_set {id due i : Int} {L : List Th} : isSet i (setA id due L) = (isSet i L || i == id) := by
 have : isSet i (setA id due L) = (isSet i (clr id L) || (id == i)) := by simp [isSet, setA]
 rw [this, isSet_clr]
 by_cases h : i = id
 ·subst h; simp
 ·have h1 : (i != id) = true := bne_iff_ne.2 h
  have h2 : (i == id) = false := beq_eq_false_iff_ne.2 h
  have h3 : (id == i) = false := beq_eq_false_iff_ne.2 (fun e => h e.symm)
  rw [h1, h2, h3, Bool.and_true]
theorem set_len {L : List Th} (h : GoodW L) (id due : Int) : (setA id due L).length = if isSet id L = true then L.length else L.length + 1 := by
 unfold setA
 rw [List.length_append, List.length_singleton]
 cases hs : isSet id L with
 | true => rw [clr_len h hs]; rfl
 | false => rw [clr_none hs]; rfl
theorem MapOf.put {val : Th → DataW Unit} {D : DataW Unit} {L : List Th} (h : MapOf val D L) (hG : GoodW L) (id due : Int) : MapOf val (D.put (.int .i64 id) (val (due, id))) (setA id due L) := by
 refine ⟨h.tidy.put (k := .int .i64 id) trivial _, ?_, fun t ht zd => ?_, fun i => ?_⟩
 ·rw [size_put (k := .int .i64 id) h.tidy, set_len hG, h.has, h.size]
 ·unfold setA at ht
  rcases List.mem_append.1 ht with h1 | h1
  ·have := clr_mem.1 h1
   rw [atKey_put_other (by simpa using this.2)]
   exact h.at' t this.1 zd
  ·simp at h1
   subst h1
   exact atKey_put_same (k := .int .i64 id) h.tidy.isMap trivial _ _
 ·rw [isSet_set]
  by_cases e : i = id
  ·subst e
   rw [has_put_same (k := .int .i64 i) h.tidy.isMap trivial]
   simp
  ·rw [has_put_other (by simpa using e), h.has]
   simp [e]
theorem MapOf.del {val : Th → DataW Unit} {D : DataW Unit} {L : List Th} (h : MapOf val D L) (hG : GoodW L) (id : Int) : MapOf val (D.del (.int .i64 id)) (clr id L) := by
 refine ⟨h.tidy.del _, ?_, fun t ht zd => ?_, fun i => ?_⟩
 ·have hs := size_del (k := .int .i64 id) h.tidy
  rw [h.has, h.size] at hs
  cases e : isSet id L with
  | true =>
   rw [e] at hs
   have := clr_len hG e
   simp at hs
   omega
  | false =>
   rw [e] at hs
   rw [clr_none e]
   simpa using hs
 ·have := clr_mem.1 ht
  rw [atKey_del_other (by simpa using this.2)]
  exact h.at' t this.1 zd
 ·rw [isSet_clr]
  by_cases e : i = id
  ·subst e
   rw [has_del_same]
   simp
  ·rw [has_del_other (by simpa using e), h.has]
   simp [e]
end Go.Proofs.YthhcecllejddeaaGreatDoor.Wheel
