/- Give, Take. -/
import Derived.Test.YtdihbbpndijdoaaKW5
namespace Go.Proofs.Ytdihbbpndijdoaa
open Go.RowKit Go.Maps

set_option maxRecDepth 100000 in
set_option maxHeartbeats 2000000 in
theorem give_any {w : World} {b : Nat} {F : Nat → Prop} {os : List Int} {qs : Qs} (h : Lk w b F os qs) (ht : total qs ≤ 8796093022208) (lock p : Int) :
    Calls Try.prog 18 #[.pointer (some ⟨b, 0, none⟩), .int .i64 lock, .int .i64 p] w fun e w' => e = .returned (.tuple #[.int .i64 (giveR os qs lock p).1, .int .i64 (giveR os qs lock p).2]) ∧ LkOut w b F (giveO os qs lock p) (giveQ os qs lock p) w' := by
  have HH := hd h
  obtain ⟨hG, m, ao, co, aq, cq, es, hL, hq, hF, -⟩ := h
  have hmay := may_any hL.lb lock p
  by_cases h1 : mayE os.length lock p = 0
  · obtain ⟨i, rfl, hi, hp0⟩ := mayE_zero h1
    rw [h1] at hmay
    have c0 := hL.lb.c0
    obtain ⟨g, rfl, ci⟩ := hL.lb.owner i hi
    by_cases h2 : oAt os i = p
    · obtain ⟨e1, e2, e3⟩ := give_yes (qs := qs) h1 h2
      rw [e1, e2, e3]
      have hha := hand_any hL hG hq hi ht
      have HG2 := hd (hG.hand i)
      have HF := hd hF
      rw [h2] at ci
      have hlen : (handO os qs i).length = os.length := handO_len _ _ _
      obtain ⟨n, hN⟩ : ∃ n, Hid (os.length = n) := ⟨_, rfl⟩
      rw [hN.out] at hlen c0 hi
      have hn8 : n ≤ 8 := by rw [← hN.out]; exact hG.le
      obtain ⟨v, hV⟩ : ∃ v, Hid (oAt (handO os qs i) i = v) := ⟨_, rfl⟩
      rw [hV.out]
      have HLN := hd hlen
      clear hL hG hq h1 h2 e1 e2 e3 hF hlen
      go_enter Try.func18, Try.ntmps18
      go_wp2_with (first
        | (go_at_call 27; refine hmay.mono ?_; rintro e3 w3 ⟨rfl, rfl⟩)
        | (go_at_call 29; refine hha.mono ?_; rintro e4 w4 ⟨rfl, hl4⟩
           have HL4 := hd hl4
           obtain ⟨es', t1, -, -, -⟩ := hl4
           have d0 := t1.lb.c0
           obtain ⟨g', eg, di⟩ := t1.lb.owner i (by rw [HLN.out]; exact hi)
           cases eg
           rw [HLN.out] at d0
           rw [hV.out] at di
           clear t1))
      go_ret2
      exact ⟨rfl, HL4.out.out HF.out HG2.out⟩
    · obtain ⟨e1, e2, e3⟩ := give_no (qs := qs) h1 h2
      rw [e1, e2, e3]
      have hn8 := hG.le
      have hne : (oAt os i == p) = false := by simpa using h2
      generalize os.length = n at *
      generalize oAt os i = v at *
      clear hL hG hq h1 e1 e2 e3 hF h2
      go_enter Try.func18, Try.ntmps18
      go_wp2_with (first
        | (go_at_call 27; refine hmay.mono ?_; rintro e3 w3 ⟨rfl, rfl⟩))
      go_ret2
      exact ⟨rfl, LkOut.same HH.out (below_same w3)⟩
  · obtain ⟨e1, e2, e3⟩ := give_bad (qs := qs) h1
    rw [e1, e2, e3]
    have hne : (mayE os.length lock p == 0) = false := by simpa using h1
    generalize mayE os.length lock p = E at *
    clear hL hG hq hF h1 e1 e2 e3
    go_enter Try.func18, Try.ntmps18
    go_wp2_with (first
      | (go_at_call 27; refine hmay.mono ?_; rintro e3 w3 ⟨rfl, rfl⟩))
    go_ret2
    exact ⟨rfl, LkOut.same HH.out (below_same w3)⟩

/-- One more who waits, as append leaves it. -/
theorem Qw.push {w : World} {e : Qe} (h : Qw w e) (hn : e.2.2.length < 8796093022208) (p : Int) :
    ∃ e' : Qe, ∃ w', (∀ ty, (Builtin.append_ #[33, 33] ty #[.slice e.1 e.2.2.length e.2.1, .slice (some ⟨w.heap.size, 0, none⟩) 1 1]).run Try.prog (w.alloc (.cells #[.int .i64 p] 3)) = .ok (.slice e'.1 (e.2.2.length + 1) e'.2.1) w') ∧
      e'.2.2 = e.2.2 ++ [p] ∧ Qw w' e' ∧ Mod (fun k => blk e.1 = some k) w w' ∧ ∀ k, blk e'.1 = some k → blk e.1 = some k ∨ w.heap.size ≤ k := by
  obtain ⟨i, k1, k2, k3, k4⟩ := info_parts infoN
  have hb := below_al w (.cells #[.int .i64 p] 3)
  have hh := heap_alloc_new w (.cells #[.int .i64 p] 3)
  have hs : Src Try.prog 1 33 (.slice (some ⟨w.heap.size, 0, none⟩) 1 1) 1 (iC [p]) (w.alloc (.cells #[.int .i64 p] 3)) := by
    refine Src.ofSlice _ Try.underlying33 _ _ _ _ (by simp [iC]) (fun j u hj => ?_) (iC_one _)
    rw [addr_add, cell_of_row _ _ _ _ _ _ hh, Nat.zero_add]
    simpa [iC] using hj
  obtain ⟨a', c', w', m1, m2, m3, m4⟩ := run_append_ro (P := Try.prog) _ 33 3 i _ 8 Try.underlying33 k1 k2 k3 k4 rfl (h.below hb) _ 1 _ hs (by unfold maxLen; omega) (by omega)
  rw [← iC_app] at m2
  refine ⟨(a', c', e.2.2 ++ [p]), w', m1, rfl, ?_, (Mod.of_below _ hb).trans m3 (fun _ h => .inl h), fun k hk => ?_⟩
  · unfold Qw
    simp only [List.length_append, List.length_singleton]
    exact m2
  · rcases m4 k hk with h1 | h1
    · exact .inl h1
    · exact .inr (by have := hb.size; omega)
end Go.Proofs.Ytdihbbpndijdoaa
