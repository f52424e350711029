/- heap.down. -/
import Derived.Test.YtdpbkoohhnpjmaaWW5
namespace Go.Proofs.Ytdpbkoohhnpjmaa
open Go.RowKit Go.Sort Go.Shelf

theorem sw_far {f : Nat → Th} {i j c n : Nat} (hi : i < n) (hj : j < n) (hc : n ≤ c) : sw f i j c = f c := by unfold sw; rw [if_neg (by omega), if_neg (by omega)]

set_option maxRecDepth 100000 in
set_option maxHeartbeats 2000000 in
theorem down_any {w : World} {b m : Nat} {a : Option Addr} {c n nn : Nat} {O : List Th} (h : HpAt w b m a c O) (hn : O.length = nn) (hle : n ≤ nn) (hU : DnI (tAt O) n 0) (hmax : nn ≤ 8796093022208) :
    Calls Try.prog 39 #[.iface 63 (.pointer (some ⟨b, 1, none⟩)), .int .i64 0, .int .i64 (n : Int)] w fun e w' => (∃ B, e = .returned (.bool B)) ∧ ∃ O', HpOut w b m a c O w' O' ∧ Heap (tAt O') n ∧ ∀ k, n ≤ k → tAt O' k = tAt O k := by
  have HH := hd h
  have HU := hd hU
  have HN := hd hn
  clear h hU hn
  have mL : ∀ W : World, W.cell? ⟨b, 1, none⟩ = some (.slice a nn c) → Sem.run Try.prog (method 227 63 (.pointer (some ⟨b, 1, none⟩)) "Less") W = .ok (79, .slice a nn c) W := fun W h => mLess h
  have mS : ∀ W : World, W.cell? ⟨b, 1, none⟩ = some (.slice a nn c) → Sem.run Try.prog (method 227 63 (.pointer (some ⟨b, 1, none⟩)) "Swap") W = .ok (80, .slice a nn c) W := fun W h => mSwap h
  have eL := eLess
  have eS := eSwap
  go_enter Try.func39, Try.ntmps39
  go_wp2_with fail
  go_loopg [7, 8, 9, 10] n (fun k v7 v8 v9 v10 wr => ∃ i : Nat, v7 = .int .i64 (i : Int) ∧ i + k = n ∧ Hid (∃ O', HpOut w b m a c O wr O' ∧ DnI (tAt O') n i ∧ ∀ k, n ≤ k → tAt O' k = tAt O k))
  case atStart => exact ⟨0, rfl, by omega, hd ⟨O, HpOut.refl HH.out, HU.out, fun _ _ => rfl⟩⟩
  case round =>
    obtain ⟨i, rfl, hik, HR⟩ := hrel
    obtain ⟨O', hO', hU', hF'⟩ := HR.out
    have hl' : O'.length = nn := by rw [hO'.len, HN.out]
    have hc1 := hO'.hp.c1
    have hrow := hO'.hp.row
    rw [hl'] at hc1 hrow
    have HO := hd hO'
    have HV := hd hU'
    have HX := hd hF'
    have HL := hd hl'
    clear hO' hU' hl' HR HU HH hF'
    have HK : Hid (∀ W : World, Below wr.heap.size wr W → W.cell? ⟨b, 1, none⟩ = some (.slice a nn c)) := hd (fun W hb => by rw [hb.cell (p := ⟨b, 1, none⟩) HO.out.hp.blt]; exact hc1)
    obtain ⟨j1, hj1⟩ : ∃ j1 : Nat, Hid (2 * i + 1 = j1) := ⟨_, rfl⟩
    have e1 : (2 : Int) * (i : Int) + 1 = (j1 : Int) := by have := hj1.out; omega
    have hin : i ≤ n := by omega
    by_cases h1 : j1 < n
    · obtain ⟨j2, hj2⟩ : ∃ j2 : Nat, Hid (j1 + 1 = j2) := ⟨_, rfl⟩
      have e2 : (j1 : Int) + 1 = (j2 : Int) := by have := hj2.out; omega
      have h1' : (j1 : Int) < (n : Int) := by omega
      have hj2b : j2 ≤ n := by have := hj2.out; omega
      have hi1 : i < j1 := by have := hj1.out; omega
      have hp1 : par j1 = i := (par_child (by omega)).2 (.inl hj1.out.symm)
      have hp2 : par j2 = i := (par_child (by omega)).2 (.inr (by have := hj1.out; have := hj2.out; omega))
      have hch : ∀ x, 0 < x → x < n → par x = i → x = j1 ∨ x = j2 := fun x h0 _ hx => by
        have := (par_child h0).1 hx
        have := hj1.out
        have := hj2.out
        omega
      have HSW : Hid (∀ j, j < n → i < n → ∀ W : World, Below wr.heap.size wr W → Calls Try.prog 80 #[.slice a nn c, .int .i64 (i : Int), .int .i64 (j : Int)] W fun e w' => e = .returned (.tuple #[]) ∧ Row w' 60 2 a nn c (wC (swL O' i j)) ∧ Mod (fun k => blk a = some k) W w') := hd (fun j hj hi W hb => swap_any (hrow.below hb) (by omega) (by omega))
      have HLS : Hid (∀ x y, x < n → y < n → ∀ B : Bool, B = decide (ltT (tAt O' x) (tAt O' y)) → ∀ W : World, Below wr.heap.size wr W → Calls Try.prog 79 #[.slice a nn c, .int .i64 (x : Int), .int .i64 (y : Int)] W fun e w' => e = .returned (.bool B) ∧ Below W.heap.size W w') := hd (fun x y hx hy B hB W hb => less_any (hrow.below hb) (by omega) (by omega) B hB)
      have HEND : Hid (∀ j, (∀ x, 0 < x → x < n → par x = i → ¬ ltT (tAt O' x) (tAt O' j)) → ¬ ltT (tAt O' j) (tAt O' i) → ∀ W : World, Below wr.heap.size wr W → ∃ O', HpOut w b m a c O W O' ∧ Heap (tAt O') n ∧ ∀ k, n ≤ k → tAt O' k = tAt O k) := hd (fun j hm hl W hb => ⟨O', HO.out.below hb, HV.out.done hm hl, HX.out⟩)
      have HGO : Hid (∀ j, 0 < j → j < n → par j = i → (∀ x, 0 < x → x < n → par x = i → ¬ ltT (tAt O' x) (tAt O' j)) → ltT (tAt O' j) (tAt O' i) → ∀ w1 w2 : World, Below wr.heap.size wr w1 → Row w2 60 2 a nn c (wC (swL O' i j)) → Mod (fun k => blk a = some k) w1 w2 → ∃ O', HpOut w b m a c O w2 O' ∧ DnI (tAt O') n j ∧ ∀ k, n ≤ k → tAt O' k = tAt O k) := hd (fun j h0 hj hp hm hl w1 w2 hb hR hM => by
        have hij := par_lt h0
        rw [hp] at hij
        refine ⟨swL O' i j, (HO.out.below hb).swap hR hM HL.out.symm (by omega) (by omega), ?_, fun k hk => ?_⟩
        · rw [swL_fun (by rw [HL.out]; omega) (by rw [HL.out]; omega)]
          exact HV.out.step h0 hj hp hm hl
        · rw [swL_fun (by rw [HL.out]; omega) (by rw [HL.out]; omega), sw_far (n := n) (by omega) hj hk]
          exact HX.out k hk)
      have hi2 : i < n := by omega
      clear HO HV HX hrow HL
      by_cases h2 : j2 < n
      · have h2' : (j2 : Int) < (n : Int) := by omega
        by_cases hmn : ltT (tAt O' j2) (tAt O' j1)
        · have ls1 := HLS.out j2 j1 h2 h1 true (by simpa using hmn)
          have hmm : ∀ x, 0 < x → x < n → par x = i → ¬ ltT (tAt O' x) (tAt O' j2) := fun x h0 hx hp => by
            rcases hch x h0 hx hp with rfl | rfl
            · exact ltT_asymm hmn
            · exact ltT_irrefl _
          have HMM := hd hmm
          clear hmm
          by_cases hl : ltT (tAt O' j2) (tAt O' i)
          · have ls2 := HLS.out j2 i h2 hi2 true (by simpa using hl)
            have hsw := HSW.out j2 h2 hi2
            have HG := hd (HGO.out j2 (by omega) h2 hp2 (HMM.out) hl)
            clear hl HSW HLS HEND HGO hch hp1 hp2 hj1 hj2 hmn
            have bz := below_same wr
            go_upto_region 8 with (go_at_call 79; refine (ls1 _ bz).mono ?_; rintro e1 w1 ⟨rfl, b1⟩; have hc2 := HK.out w1 b1)
            go_wp2_with (first
              | (go_at_call 79; refine (ls2 _ b1).mono ?_; rintro e2 w2 ⟨rfl, b2⟩; replace b2 := Below.trans b1 (b2.mono b1.size); have hc3 := HK.out w2 b2)
              | (go_at_call 80; refine (hsw _ b2).mono ?_; rintro e3 w3 ⟨rfl, r3, m3⟩))
            go_roundg (n - j2)
            case measure => omega
            case rel => exact ⟨j2, rfl, by omega, hd (HG.out _ _ b2 r3 m3)⟩
          · have ls2 := HLS.out j2 i h2 hi2 false (by simpa using hl)
            have HE := hd (HEND.out j2 (HMM.out) hl)
            clear hl HSW HLS HEND HGO hch hp1 hp2 hj1 hj2 hmn
            have bz := below_same wr
            go_upto_region 8 with (go_at_call 79; refine (ls1 _ bz).mono ?_; rintro e1 w1 ⟨rfl, b1⟩; have hc2 := HK.out w1 b1)
            go_wp2_with (first
              | (go_at_call 79; refine (ls2 _ b1).mono ?_; rintro e2 w2 ⟨rfl, b2⟩; replace b2 := Below.trans b1 (b2.mono b1.size); have hc3 := HK.out w2 b2))
            go_ret
            exact ⟨⟨_, rfl⟩, HE.out _ b2⟩
        · have ls1 := HLS.out j2 j1 h2 h1 false (by simpa using hmn)
          have hmm : ∀ x, 0 < x → x < n → par x = i → ¬ ltT (tAt O' x) (tAt O' j1) := fun x h0 hx hp => by
            rcases hch x h0 hx hp with rfl | rfl
            · exact ltT_irrefl _
            · exact hmn
          have HMM := hd hmm
          clear hmm
          by_cases hl : ltT (tAt O' j1) (tAt O' i)
          · have ls2 := HLS.out j1 i h1 hi2 true (by simpa using hl)
            have hsw := HSW.out j1 h1 hi2
            have HG := hd (HGO.out j1 (by omega) h1 hp1 (HMM.out) hl)
            clear hl HSW HLS HEND HGO hch hp1 hp2 hj1 hj2 hmn
            have bz := below_same wr
            go_upto_region 8 with (go_at_call 79; refine (ls1 _ bz).mono ?_; rintro e1 w1 ⟨rfl, b1⟩; have hc2 := HK.out w1 b1)
            go_wp2_with (first
              | (go_at_call 79; refine (ls2 _ b1).mono ?_; rintro e2 w2 ⟨rfl, b2⟩; replace b2 := Below.trans b1 (b2.mono b1.size); have hc3 := HK.out w2 b2)
              | (go_at_call 80; refine (hsw _ b2).mono ?_; rintro e3 w3 ⟨rfl, r3, m3⟩))
            go_roundg (n - j1)
            case measure => omega
            case rel => exact ⟨j1, rfl, by omega, hd (HG.out _ _ b2 r3 m3)⟩
          · have ls2 := HLS.out j1 i h1 hi2 false (by simpa using hl)
            have HE := hd (HEND.out j1 (HMM.out) hl)
            clear hl HSW HLS HEND HGO hch hp1 hp2 hj1 hj2 hmn
            have bz := below_same wr
            go_upto_region 8 with (go_at_call 79; refine (ls1 _ bz).mono ?_; rintro e1 w1 ⟨rfl, b1⟩; have hc2 := HK.out w1 b1)
            go_wp2_with (first
              | (go_at_call 79; refine (ls2 _ b1).mono ?_; rintro e2 w2 ⟨rfl, b2⟩; replace b2 := Below.trans b1 (b2.mono b1.size); have hc3 := HK.out w2 b2))
            go_ret
            exact ⟨⟨_, rfl⟩, HE.out _ b2⟩
      · have h2' : decide ((j2 : Int) < (n : Int)) = false := by simp; omega
        have hmm : ∀ x, 0 < x → x < n → par x = i → ¬ ltT (tAt O' x) (tAt O' j1) := fun x h0 hx hp => by
          rcases hch x h0 hx hp with rfl | rfl
          · exact ltT_irrefl _
          · omega
        have HMM := hd hmm
        clear hmm
        by_cases hl : ltT (tAt O' j1) (tAt O' i)
        · have ls2 := HLS.out j1 i h1 hi2 true (by simpa using hl)
          have hsw := HSW.out j1 h1 hi2
          have HG := hd (HGO.out j1 (by omega) h1 hp1 (HMM.out) hl)
          clear hl HSW HLS HEND HGO hch hp1 hp2 hj1 hj2
          have bz := below_same wr
          go_wp2_with (first
            | (go_at_call 79; refine (ls2 _ bz).mono ?_; rintro e2 w2 ⟨rfl, b2⟩; replace b2 := Below.trans bz (b2.mono bz.size); have hc3 := HK.out w2 b2)
            | (go_at_call 80; refine (hsw _ b2).mono ?_; rintro e3 w3 ⟨rfl, r3, m3⟩))
          go_roundg (n - j1)
          case measure => omega
          case rel => exact ⟨j1, rfl, by omega, hd (HG.out _ _ b2 r3 m3)⟩
        · have ls2 := HLS.out j1 i h1 hi2 false (by simpa using hl)
          have HE := hd (HEND.out j1 (HMM.out) hl)
          clear hl HSW HLS HEND HGO hch hp1 hp2 hj1 hj2
          have bz := below_same wr
          go_wp2_with (first
            | (go_at_call 79; refine (ls2 _ bz).mono ?_; rintro e2 w2 ⟨rfl, b2⟩; replace b2 := Below.trans bz (b2.mono bz.size); have hc3 := HK.out w2 b2))
          go_ret
          exact ⟨⟨_, rfl⟩, HE.out _ b2⟩
    · have h1' : (n : Int) ≤ (j1 : Int) := by omega
      have HE : Hid (∃ O', HpOut w b m a c O wr O' ∧ Heap (tAt O') n ∧ ∀ k, n ≤ k → tAt O' k = tAt O k) := hd ⟨O', HO.out, HV.out.done0 (by have := hj1.out; omega), HX.out⟩
      clear HO HV HX
      go_wp2_with fail
      go_ret
      exact ⟨⟨_, rfl⟩, HE.out⟩
end Go.Proofs.Ytdpbkoohhnpjmaa
