/- heap.up, heap.down. -/
import Derived.Test.YtdpbkoohhnpjmaaWW4
namespace Go.Proofs.Ytdpbkoohhnpjmaa
open Go.RowKit Go.Sort Go.Shelf

theorem swL_to {O' : List Th} {n i j : Nat} {f : Nat → Th} (hl : O'.length = n) (hi : i < n) (hj : j < n) (e : f = sw (tAt O') i j) : tAt (swL O' i j) = f := by
  rw [swL_fun (by omega) (by omega), e]

/-- What heap.up and heap.down leave. -/
structure HpOut (w : World) (b m : Nat) (a : Option Addr) (c : Nat) (O : List Th) (w' : World) (O' : List Th) : Prop where
  hp : HpAt w' b m a c O'
  len : O'.length = O.length
  mem : ∀ x, x ∈ O' ↔ x ∈ O
  mod : Mod (fun k => blk a = some k) w w'
theorem HpOut.refl {w : World} {b m : Nat} {a : Option Addr} {c : Nat} {O : List Th} (h : HpAt w b m a c O) : HpOut w b m a c O w O := ⟨h, rfl, fun _ => Iff.rfl, Mod.refl _ _⟩
theorem HpOut.below {w w1 w2 : World} {b m : Nat} {a : Option Addr} {c : Nat} {O O' : List Th} (h : HpOut w b m a c O w1 O') (hb : Below w1.heap.size w1 w2) : HpOut w b m a c O w2 O' := ⟨h.hp.below hb, h.len, h.mem, h.mod.after hb⟩
theorem HpOut.swap {w w1 w2 : World} {b m : Nat} {a : Option Addr} {c : Nat} {O O' : List Th} {i j n : Nat} (h : HpOut w b m a c O w1 O') (hR : Row w2 60 2 a n c (wC (swL O' i j))) (hM : Mod (fun k => blk a = some k) w1 w2) (hn : n = O'.length) (hi : i < n) (hj : j < n) : HpOut w b m a c O w2 (swL O' i j) := by
  subst hn
  exact ⟨h.hp.over hM (by rw [swL_len]; exact hR) (swL_len _ _ _), by rw [swL_len]; exact h.len, fun x => (swL_mem hi hj x).trans (h.mem x), h.mod.trans hM (fun _ h => .inl h)⟩

set_option maxRecDepth 100000 in
set_option maxHeartbeats 1000000 in
theorem up_any {w : World} {b m : Nat} {a : Option Addr} {c n j0 : Nat} {O : List Th} (h : HpAt w b m a c O) (hn : O.length = n) (hj : j0 < n) (hU : UpI (tAt O) n j0) (hmax : n ≤ 8796093022208) :
    Calls Try.prog 32 #[.iface 63 (.pointer (some ⟨b, 1, none⟩)), .int .i64 (j0 : Int)] w fun e w' => e = .returned (.tuple #[]) ∧ ∃ O', HpOut w b m a c O w' O' ∧ Heap (tAt O') n := by
  have HH := hd h
  have HU := hd hU
  have HN := hd hn
  clear h hU hn
  have mL : ∀ W : World, W.cell? ⟨b, 1, none⟩ = some (.slice a n c) → Sem.run Try.prog (method 227 63 (.pointer (some ⟨b, 1, none⟩)) "Less") W = .ok (79, .slice a n c) W := fun W h => mLess h
  have mS : ∀ W : World, W.cell? ⟨b, 1, none⟩ = some (.slice a n c) → Sem.run Try.prog (method 227 63 (.pointer (some ⟨b, 1, none⟩)) "Swap") W = .ok (80, .slice a n c) W := fun W h => mSwap h
  have eL := eLess
  have eS := eSwap
  go_enter Try.func32, Try.ntmps32
  go_wp2_with fail
  go_loopg [1, 4] j0 (fun k v1 v4 wr => v1 = .int .i64 (k : Int) ∧ k < n ∧ Hid (∃ O', HpOut w b m a c O wr O' ∧ UpI (tAt O') n k))
  case atStart => exact ⟨rfl, hj, hd ⟨O, HpOut.refl HH.out, HU.out⟩⟩
  case round =>
    obtain ⟨rfl, hkn, HR⟩ := hrel
    obtain ⟨O', hO', hU'⟩ := HR.out
    have hl' : O'.length = n := by rw [hO'.len, HN.out]
    have hc1 := hO'.hp.c1
    have hrow := hO'.hp.row
    rw [hl'] at hc1 hrow
    have HO := hd hO'
    have HV := hd hU'
    have HL := hd hl'
    clear hO' hU' hl' HR HU HH
    by_cases hk0 : gk = 0
    · subst hk0
      have HE : Hid (∃ O', HpOut w b m a c O wr O' ∧ Heap (tAt O') n) := hd ⟨O', HO.out, HV.out.done0⟩
      clear HO HV
      go_wp2_with fail
      go_end0
      exact ⟨rfl, HE.out⟩
    · obtain ⟨p, hp⟩ : ∃ p, Hid (par gk = p) := ⟨_, rfl⟩
      have hpk : p < gk := by rw [← hp.out]; exact par_lt (by omega)
      have hq : ((gk : Int) - 1).tdiv 2 = (p : Int) := by
        rw [← hp.out, show ((gk : Int) - 1) = ((gk - 1 : Nat) : Int) by omega]
        exact (Int.ofNat_tdiv (gk - 1) 2).symm
      have hne : ((p : Int) == (gk : Int)) = false := by simp; omega
      have hk1 : 1 ≤ gk := by omega
      by_cases hlt : ltT (tAt O' gk) (tAt O' p)
      · have hls := less_any (i := gk) (j := p) hrow (by omega) (by omega) true (by simpa using hlt)
        have HS : Hid (UpI (tAt (swL O' p gk)) n p) := hd (by
          rw [swL_fun (by rw [HL.out]; omega) (by rw [HL.out]; omega)]
          have := HV.out.step (by omega) hkn (by rw [hp.out]; exact hlt)
          rwa [hp.out] at this)
        have hsw : ∀ W : World, Below wr.heap.size wr W → Calls Try.prog 80 #[.slice a n c, .int .i64 (p : Int), .int .i64 (gk : Int)] W fun e w' => e = .returned (.tuple #[]) ∧ Row w' 60 2 a n c (wC (swL O' p gk)) ∧ Mod (fun k => blk a = some k) W w' := fun W hb => swap_any (hrow.below hb) (by omega) hkn
        have HK : Hid (∀ W : World, Below wr.heap.size wr W → W.cell? ⟨b, 1, none⟩ = some (.slice a n c)) := hd (fun W hb => by rw [hb.cell (p := ⟨b, 1, none⟩) HO.out.hp.blt]; exact hc1)
        have HF : Hid (∀ w1 w2 : World, Below wr.heap.size wr w1 → Row w2 60 2 a n c (wC (swL O' p gk)) → Mod (fun k => blk a = some k) w1 w2 → HpOut w b m a c O w2 (swL O' p gk)) := hd (fun w1 w2 hb hR hM => (HO.out.below hb).swap hR hM HL.out.symm (by omega) hkn)
        clear hk0 hlt HV HO hrow
        go_wp2_with (first
          | (go_at_call 79; refine hls.mono ?_; rintro e1 w1 ⟨rfl, b1⟩; have hc2 := HK.out w1 b1)
          | (go_at_call 80; refine (hsw _ b1).mono ?_; rintro e2 w2 ⟨rfl, r2, m2⟩))
        go_roundg p
        case measure => exact hpk
        case rel => exact ⟨rfl, by omega, hd ⟨_, HF.out _ _ b1 r2 m2, HS.out⟩⟩
      · have hls := less_any (i := gk) (j := p) hrow (by omega) (by omega) false (by simpa using hlt)
        have HE : Hid (∃ O', HpOut w b m a c O wr O' ∧ Heap (tAt O') n) := hd ⟨O', HO.out, HV.out.done (by rw [hp.out]; exact hlt)⟩
        clear hk0 hlt HO HV
        go_wp2_with (first | (go_at_call 79; refine hls.mono ?_; rintro e1 w1 ⟨rfl, b1⟩))
        go_end0
        obtain ⟨O2, h1, h2⟩ := HE.out
        exact ⟨rfl, O2, h1.below b1, h2⟩
end Go.Proofs.Ytdpbkoohhnpjmaa
