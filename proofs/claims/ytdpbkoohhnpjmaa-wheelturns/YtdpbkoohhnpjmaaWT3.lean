/- step: Clear, Due, Next. -/
import Derived.Test.YtdpbkoohhnpjmaaWT2
namespace Go.Proofs.Ytdpbkoohhnpjmaa
open Go.RowKit Go.Sort Go.Shelf Go.Maps

theorem NextA.uniq {L : List Th} {n m : Int} {i j : Bool} (h : NextA L n i) (k : NextA L m j) : n = m ∧ i = j := by
  rcases h with ⟨h1, rfl, rfl⟩ | ⟨t, h1, rfl, rfl⟩
  · rcases k with ⟨k1, rfl, rfl⟩ | ⟨s, k1, rfl, rfl⟩
    · exact ⟨rfl, rfl⟩
    · rw [h1] at k1; exact absurd k1.1 List.not_mem_nil
  · rcases k with ⟨k1, rfl, rfl⟩ | ⟨s, k1, rfl, rfl⟩
    · rw [k1] at h1; exact absurd h1.1 List.not_mem_nil
    · rw [h1.uniq k1]; exact ⟨rfl, rfl⟩

set_option maxRecDepth 100000 in
set_option maxHeartbeats 2000000 in
theorem step_clear {w : World} {b1 b2 : Nat} {F : Nat → Prop} {L : List Th} (h : Pr w b1 b2 F L) (hL : L.length < 4398046511104) {on id at' : Int} (hi : Fit64 id) :
    Calls Try.prog 8 #[.pointer (some ⟨b1, 0, none⟩), .pointer (some ⟨b2, 0, none⟩), .agg #[.int .i64 3, .int .i64 on, .int .i64 id, .int .i64 at']] w fun e w' => e = .returned (.bool true) ∧ StepOut w b1 b2 F L w' := by
  -- what both answer
  have hset : ∀ (W : World) F1, Wh W b1 F1 L → Calls Try.prog 14 #[.pointer (some ⟨b1, 0, none⟩), .int .i64 id] W fun e w' => e = .returned (.bool (isSet id L)) ∧ WhOut W b1 F1 (clr id L) w' := fun W F1 hW => clear_any hW hi (by omega)
  have hrset : ∀ (W : World) F2, Rf W b2 F2 L → Calls Try.prog 18 #[.pointer (some ⟨b2, 0, none⟩), .int .i64 id] W fun e w' => e = .returned (.bool (isSet id L)) ∧ RfOut W b2 F2 (clr id L) w' := fun W F2 hW => rclear_any hW h.good (by omega) id
  have hlen : (clr id L).length ≤ L.length + 1 := Nat.le_trans (List.length_filter_le _ _) (by omega)
  generalize isSet id L = B at *
  generalize clr id L = L' at *
  have HL := hd hlen
  have HH := hd h
  have hbx : OpBox (w.alloc (.cells #[.int .i64 3, .int .i64 on, .int .i64 id, .int .i64 at'] 33)) w.heap.size 3 on id at' := ⟨heap_alloc_new w _⟩
  have hb0 := below_al w (.cells #[.int .i64 3, .int .i64 on, .int .i64 id, .int .i64 at'] 33)
  have hlt := h.lt
  clear h hlen
  go_enter Try.func8, Try.ntmps8
  go_upto_region 5 with fail
  obtain ⟨w0, hw0⟩ : ∃ W, Hid (w.alloc (.cells #[.int .i64 3, .int .i64 on, .int .i64 id, .int .i64 at'] 33) = W) := ⟨_, rfl⟩
  obtain ⟨G, hGn⟩ : ∃ G, Hid (w.heap.size = G) := ⟨_, rfl⟩
  rw [hw0.out] at hbx hb0 ⊢
  rw [hGn.out] at hbx ⊢
  obtain ⟨F1, F2, hW, hRf, hdis, hFF, hFl⟩ := HH.out.below hb0
  have hGF : ¬ F G := fun hf => by have := hlt G hf; have := hGn.out; omega
  have hs1 := hset w0.drew F1 (hW.below ((Below.refl _ w0).drew))
  obtain ⟨q0, q1, q2, q3⟩ := hbx.cells
  have HK : Hid (∀ w1, WhOut w0.drew b1 F1 L' w1 → (w1.cell? ⟨G, 2, none⟩ = some (.int .i64 id)) ∧ Rf w1 b2 F2 L) := hd (fun w1 ho =>
    have hc := (((hbx.below ((Below.refl _ w0).drew)).mod ho.1 (fun hf => hGF (hFF G (.inl hf)))).cells)
    ⟨hc.2.2.1, ho.keepR (hRf.below ((Below.refl _ w0).drew)) hdis⟩)
  have HJ : Hid (∀ w1 w2, WhOut w0.drew b1 F1 L' w1 → RfOut w1 b2 F2 L' w2 → (w2.cell? ⟨G, 2, none⟩ = some (.int .i64 id)) ∧ StepOut w b1 b2 F L w2) := hd (fun w1 w2 ho hr =>
    have hc := ((((hbx.below ((Below.refl _ w0).drew)).mod ho.1 (fun hf => hGF (hFF G (.inl hf)))).mod hr.1 (fun hf => hGF (hFF G (.inr hf)))).cells)
    ⟨hc.2.2.1, L', HL.out, PrOut.ofBelow (Below.trans hb0 (Below.mono ((Below.refl _ w0).drew) hb0.size)) (PrOut.join hdis hFF hFl ho (below_same _) hr)⟩)
  clear hW hRf hset hbx hlt hGF HH hw0
  go_region_held3 (fun w' => w'.cell? ⟨G, 2, none⟩ = some (.int .i64 id)) (go_keep)
    (first
      | (go_at_call 14; refine hs1.mono ?_; rintro e1 w1 ⟨rfl, ho1⟩
         obtain ⟨y0, hR1⟩ := HK.out w1 ho1
         have hs2 := hrset w1 F2 hR1
         have HO1 := hd ho1
         clear ho1 hR1)
      | (go_at_call 18; refine hs2.mono ?_; rintro e2 w2 ⟨rfl, ho2⟩
         obtain ⟨z0, hE2⟩ := HJ.out w1 w2 HO1.out ho2
         have HE2 := hd hE2
         clear ho2 hE2))
  go_wp2_with fail
  go_ret
  exact ⟨by simp, HE2.out⟩

set_option maxRecDepth 100000 in
set_option maxHeartbeats 2000000 in
theorem step_due {w : World} {b1 b2 : Nat} {F : Nat → Prop} {L : List Th} (h : Pr w b1 b2 F L) (hL : L.length < 4398046511104) {on id at' : Int} (hi : Fit64 id) :
    Calls Try.prog 8 #[.pointer (some ⟨b1, 0, none⟩), .pointer (some ⟨b2, 0, none⟩), .agg #[.int .i64 4, .int .i64 on, .int .i64 id, .int .i64 at']] w fun e w' => e = .returned (.bool true) ∧ StepOut w b1 b2 F L w' := by
  have HH := hd h
  have hbx : OpBox (w.alloc (.cells #[.int .i64 4, .int .i64 on, .int .i64 id, .int .i64 at'] 33)) w.heap.size 4 on id at' := ⟨heap_alloc_new w _⟩
  have hb0 := below_al w (.cells #[.int .i64 4, .int .i64 on, .int .i64 id, .int .i64 at'] 33)
  have hG := h.good
  clear h
  go_enter Try.func8, Try.ntmps8
  go_upto_region 7 with fail
  obtain ⟨w0, hw0⟩ : ∃ W, Hid (w.alloc (.cells #[.int .i64 4, .int .i64 on, .int .i64 id, .int .i64 at'] 33) = W) := ⟨_, rfl⟩
  obtain ⟨G, hGn⟩ : ∃ G, Hid (w.heap.size = G) := ⟨_, rfl⟩
  rw [hw0.out] at hbx hb0 ⊢
  rw [hGn.out] at hbx ⊢
  obtain ⟨F1, F2, hW, hRf, -, -, -⟩ := HH.out.below hb0
  have hs1 := wdue_any hW hi
  obtain ⟨q0, q1, q2, q3⟩ := hbx.cells
  have HK : Hid (∀ w1, Below w0.heap.size w0 w1 → w1.cell? ⟨G, 2, none⟩ = some (.int .i64 id) ∧ Rf w1 b2 F2 L ∧ StepOut w b1 b2 F L w1) := hd (fun w1 hb => ⟨(hbx.below hb).cells.2.2.1, hRf.below hb, L, by omega, PrOut.same HH.out (hb0.trans (hb.mono hb0.size))⟩)
  have hs2 := fun (W : World) (hR : Rf W b2 F2 L) => rdue_any hR hG (by omega) id
  generalize (dueA id L).1 = d at *
  generalize (dueA id L).2 = B at *
  clear hW hRf hbx hw0
  go_upto_region 8 with (go_at_call 19; refine hs1.mono ?_; rintro e1 w1 ⟨rfl, ho1⟩)
  obtain ⟨y0, hR1, hE⟩ := HK.out w1 ho1
  have HE := hd hE
  have hs3 := hs2 w1 hR1
  clear hs1 hs2 hR1 hE ho1
  go_wp2_with (first | (go_at_call 20; refine hs3.mono ?_; rintro e2 w1 ⟨rfl, rfl⟩))
  go_ret
  exact ⟨by simp, HE.out⟩

set_option maxRecDepth 100000 in
set_option maxHeartbeats 2000000 in
theorem step_next {w : World} {b1 b2 : Nat} {F : Nat → Prop} {L : List Th} (h : Pr w b1 b2 F L) (hL : L.length < 4398046511104) {kd on id at' : Int} (hk : kd ≠ 2 ∧ kd ≠ 3 ∧ kd ≠ 4 ∧ kd ≠ 5) :
    Calls Try.prog 8 #[.pointer (some ⟨b1, 0, none⟩), .pointer (some ⟨b2, 0, none⟩), .agg #[.int .i64 kd, .int .i64 on, .int .i64 id, .int .i64 at']] w fun e w' => e = .returned (.bool true) ∧ StepOut w b1 b2 F L w' := by
  have k2 : (kd == 2) = false := by simpa using hk.1
  have k3 : (kd == 3) = false := by simpa using hk.2.1
  have k4 : (kd == 4) = false := by simpa using hk.2.2.1
  have k5 : (kd == 5) = false := by simpa using hk.2.2.2
  have HH := hd h
  have hb0 := below_al w (.cells #[.int .i64 kd, .int .i64 on, .int .i64 id, .int .i64 at'] 33)
  clear h hk
  go_enter Try.func8, Try.ntmps8
  go_upto_region 15 with fail
  obtain ⟨w0, hw0⟩ : ∃ W, Hid (w.alloc (.cells #[.int .i64 kd, .int .i64 on, .int .i64 id, .int .i64 at'] 33) = W) := ⟨_, rfl⟩
  rw [hw0.out] at hb0 ⊢
  have hs1 : ∃ F1, Wh w0 b1 F1 L := by obtain ⟨F1, F2, hW, -⟩ := HH.out.below hb0; exact ⟨F1, hW⟩
  obtain ⟨F1, hW⟩ := hs1
  have hs1 := wnext_any hW
  go_upto_region 16 with (go_at_call 16; refine hs1.mono ?_; rintro e1 w0 ⟨⟨n1, i1, rfl, hN1⟩, rfl⟩)
  obtain ⟨-, F2, -, hRf, -, -, -⟩ := HH.out.below hb0
  have hs2 := rnext_any hRf (by omega)
  go_upto_region 17 with (go_at_call 22; refine hs2.mono ?_; rintro e2 w2 ⟨⟨n2, i2, rfl, hN2⟩, b2'⟩; obtain ⟨rfl, rfl⟩ := hN1.uniq hN2)
  have hb2 : Below w.heap.size w w2 := hb0.trans (b2'.mono hb0.size)
  have HE : Hid (∀ n, StepOut w b1 b2 F L (w2.drewN n)) := hd (fun n => ⟨L, by omega, PrOut.same HH.out (below_drewN hb2 n)⟩)
  obtain ⟨F1', F2', hW2, hR2, -, -, -⟩ := HH.out.below hb2
  have hl1 := fun n => wlen_any (hW2.below (below_drewN (Below.refl _ w2) n))
  obtain ⟨a, c, hRA, -, -⟩ := hR2
  have c0 := hRA.c0
  generalize L.length = N at *
  clear hs1 hs2 hW hW2 hRA hN1 hN2 b2' hb2 hRf
  go_quiet (with_reducible exact Calls.quiet_of_same (hl1 _))
  go_wp2_with fail
  go_ret
  exact ⟨by simp, HE.out _⟩
end Go.Proofs.Ytdpbkoohhnpjmaa
