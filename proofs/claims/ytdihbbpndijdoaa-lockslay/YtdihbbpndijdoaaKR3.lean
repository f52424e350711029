/- The document's side: Give, Take. -/
import Derived.Test.YtdihbbpndijdoaaKR2
namespace Go.Proofs.Ytdihbbpndijdoaa
open Go.RowKit Go.Maps

theorem HT.out {w w' : World} {b : Nat} {ao : Option Addr} {co : Nat} {aq : Option Addr} {cq : Nat} {es : List Qe} {os' : List Int} {qs' : Qs} {F : Nat → Prop} (h : HT w b ao co aq cq es os' qs' w') (hF : ∀ k, lfp b ao aq es k → F k) (h1 : qs'.length = os'.length) (h2 : os'.length ≤ 8) : RkOut w b F os' qs' w' := by
  obtain ⟨es', t1, t2, t3, t4⟩ := h
  exact RkOut.mk' hF t3 h1 h2 t1 t2 t4

set_option maxRecDepth 100000 in
set_option maxHeartbeats 2000000 in
theorem rgive_any {w : World} {b : Nat} {F : Nat → Prop} {os : List Int} {qs : Qs} (h : Rk w b F os qs) (ht : total qs ≤ 8796093022208) (lock p : Int) :
    Calls Try.prog 33 #[.pointer (some ⟨b, 0, none⟩), .int .i64 lock, .int .i64 p] w fun e w' => e = .returned (.tuple #[.int .i64 (giveR os qs lock p).1, .int .i64 (giveR os qs lock p).2]) ∧ RkOut w b F (giveO os qs lock p) (giveQ os qs lock p) w' := by
  have HH := hd h
  obtain ⟨hl, h8, ao, co, aq, cq, es, hL, hq, hF, -⟩ := h
  have hmay := rmay_any hL lock p
  by_cases h1 : mayE os.length lock p = 0
  · obtain ⟨i, rfl, hi, hp0⟩ := mayE_zero h1
    rw [h1] at hmay
    have c0 := hL.c0
    obtain ⟨g, rfl, ci⟩ := hL.owner i hi
    by_cases h2 : oAt os i = p
    · obtain ⟨e1, e2, e3⟩ := give_yes (qs := qs) h1 h2
      rw [e1, e2, e3]
      have hha := rhand_any hL hq hl hi ht
      have HF := hd hF
      rw [h2] at ci
      have hlen : (handO os qs i).length = os.length := handO_len _ _ _
      have HL2 : Hid ((handQ qs i).length = (handO os qs i).length ∧ (handO os qs i).length ≤ 8) := hd (by rw [handO_len, handQ_len]; exact ⟨hl, h8⟩)
      obtain ⟨n, hN⟩ : ∃ n, Hid (os.length = n) := ⟨_, rfl⟩
      rw [hN.out] at hlen c0 hi h8
      obtain ⟨v, hV⟩ : ∃ v, Hid (oAt (handO os qs i) i = v) := ⟨_, rfl⟩
      rw [hV.out]
      have HLN := hd hlen
      clear hL hl hq h1 h2 e1 e2 e3 hF hlen
      go_enter Try.func33, Try.ntmps33
      go_wp2_with (first
        | (go_at_call 41; refine hmay.mono ?_; rintro e3 w3 ⟨rfl, rfl⟩)
        | (go_at_call 42; refine hha.mono ?_; rintro e4 w4 ⟨rfl, hl4⟩
           have HL4 := hd hl4
           obtain ⟨es', t1, -, -, -⟩ := hl4
           have d0 := t1.c0
           obtain ⟨g', eg, di⟩ := t1.owner i (by rw [HLN.out]; exact hi)
           cases eg
           rw [HLN.out] at d0
           rw [hV.out] at di
           clear t1))
      go_ret2
      exact ⟨rfl, HL4.out.out HF.out HL2.out.1 HL2.out.2⟩
    · obtain ⟨e1, e2, e3⟩ := give_no (qs := qs) h1 h2
      rw [e1, e2, e3]
      have hne : (oAt os i == p) = false := by simpa using h2
      generalize os.length = n at *
      generalize oAt os i = v at *
      clear hL hl hq h1 e1 e2 e3 hF h2
      go_enter Try.func33, Try.ntmps33
      go_wp2_with (first
        | (go_at_call 41; refine hmay.mono ?_; rintro e3 w3 ⟨rfl, rfl⟩))
      go_ret2
      exact ⟨rfl, RkOut.same HH.out (below_same w3)⟩
  · obtain ⟨e1, e2, e3⟩ := give_bad (qs := qs) h1
    rw [e1, e2, e3]
    have hne : (mayE os.length lock p == 0) = false := by simpa using h1
    generalize mayE os.length lock p = E at *
    clear hL hl hq hF h1 e1 e2 e3
    go_enter Try.func33, Try.ntmps33
    go_wp2_with (first
      | (go_at_call 41; refine hmay.mono ?_; rintro e3 w3 ⟨rfl, rfl⟩))
    go_ret2
    exact ⟨rfl, RkOut.same HH.out (below_same w3)⟩

/-- append of one that lies somewhere. -/
theorem push_at {W : World} {a : Option Addr} {n c : Nat} {q : List Int} (hR : Row W 3 1 a n c (iC q)) (hn : n < 8796093022208) {g : Nat} {p : Int} (hg : W.cell? ⟨g, 0, none⟩ = some (.int .i64 p)) :
    ∃ a' c' w', (∀ ty, (Builtin.append_ #[33, 33] ty #[.slice a n c, .slice (some ⟨g, 0, none⟩) 1 1]).run Try.prog W = .ok (.slice a' (n + 1) c') w') ∧ Row w' 3 1 a' (n + 1) c' (iC (q ++ [p])) ∧ Mod (fun k => blk a = some k) W w' ∧ ∀ k, blk a' = some k → blk a = some k ∨ W.heap.size ≤ k := by
  obtain ⟨i, k1, k2, k3, k4⟩ := info_parts infoN
  have hs : Rd W (some ⟨g, 0, none⟩) (iC [p]) := fun j u hj => by
    have : j = 0 := by
      rcases j with _ | j
      · rfl
      · simp [iC] at hj
    subst this
    simp [iC] at hj
    subst hj
    exact ⟨g, 0, rfl, hg⟩
  obtain ⟨a', c', w', m1, m2, m3, m4, _⟩ := run_append_row (P := Try.prog) W 33 3 i _ 1 8 Try.underlying33 k1 k2 k3 k4 rfl hR (.slice (some ⟨g, 0, none⟩) 1 1) 1 (iC [p]) (hs.src Try.underlying33 (by rw [iC_len]; rfl) (by omega) (iC_one _)) (by unfold maxLen; omega) (by omega)
  rw [← iC_app] at m2
  exact ⟨a', c', w', m1, m2, m3, m4⟩
end Go.Proofs.Ytdihbbpndijdoaa
