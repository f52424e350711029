/- The examples that the document fixes. -/
import Derived.Test.YtnkanaccacephaaSWA
import Derived.Test.YtnkanaccacephaaSWB
namespace Go.Proofs.Ytnkanaccacephaa
open Go.RowKit


def awL : List Stp := [⟨1, 258, 0⟩, ⟨2, 1, -2⟩]
def awB : List Nat := [70, 66, 83, 67, 1, 2, 0, 1, 2, 1, 0, 0, 2, 1, 0, 0, 0, 254, 255, 255, 255, 255, 255, 255, 255]
def awC : List Nat := [70, 66, 83, 67, 2]
def awM : List Stp := [⟨1, 3, 0⟩, ⟨3, 0, 1⟩]
theorem aw_may : mayS awL = (0, 0) := by decide +kernel
theorem aw_may2 : mayS awM = (11, 1) := by decide +kernel
theorem aw_ok : okS awL := ⟨by rw [aw_may], fun s hs => by
  simp [awL] at hs
  rcases hs with rfl | rfl <;> unfold FitS <;> simp only <;> omega⟩
theorem aw_enc : encS awL = awB := by decide +kernel
theorem aw_encF : encF awL = awB := by
  unfold encF
  rw [if_pos (by rw [aw_may]), aw_enc]
theorem aw_dec : decF awB = (awL, 0, 0) := by
  rw [← aw_enc]
  exact decF_ok (dec_enc aw_ok)
theorem aw_bad : decF awC = ([], 4, 4) := by
  have h : decS awC = .er 4 4 := by kernel_rfl
  exact decF_er h

set_option maxRecDepth 100000 in
set_option maxHeartbeats 4000000 in
theorem awake_any (w : World) : Calls Try.prog 8 #[] w fun e w' => e = .returned (.bool true) ∧ Below w.heap.size w w' := by
  have HL : Hid (∀ W : World, Rd (W.alloc (.cells #[.int .i64 1, .int .i64 258, .int .i64 0, .int .i64 2, .int .i64 1, .int .i64 (-2)] 38)) (some ⟨W.heap.size, 0, none⟩) (sCells awL)) := hd (fun W j u hj => ⟨_, 0, rfl, by
    rw [Nat.zero_add, cell_of_row _ _ _ _ _ _ (heap_alloc_new W _)]
    simpa [sCells, awL, stC] using hj⟩)
  have HM : Hid (∀ W : World, Rd (W.alloc (.cells #[.int .i64 1, .int .i64 3, .int .i64 0, .int .i64 3, .int .i64 0, .int .i64 1] 38)) (some ⟨W.heap.size, 0, none⟩) (sCells awM)) := hd (fun W j u hj => ⟨_, 0, rfl, by
    rw [Nat.zero_add, cell_of_row _ _ _ _ _ _ (heap_alloc_new W _)]
    simpa [sCells, awM, stC] using hj⟩)
  have HC : Hid (∀ W : World, Rd (W.alloc (.cells #[.int .u8 70, .int .u8 66, .int .u8 83, .int .u8 67, .int .u8 2] 5 (5, 6))) (some ⟨W.heap.size, 0, none⟩) (bCells awC)) := hd (fun W j u hj => ⟨_, 0, rfl, by
    rw [Nat.zero_add, cell_of_row _ _ _ _ _ _ (heap_alloc_new W _)]
    simpa [bCells, awC] using hj⟩)
  go_enter Try.func8, Try.ntmps8
  go_upto_region 2 with fail
  have hl := HL.out w
  have b1 := below_al w (.cells #[.int .i64 1, .int .i64 258, .int .i64 0, .int .i64 2, .int .i64 1, .int .i64 (-2)] 38)
  obtain ⟨w1, hw1⟩ : ∃ W, Hid (w.alloc (.cells #[.int .i64 1, .int .i64 258, .int .i64 0, .int .i64 2, .int .i64 1, .int .i64 (-2)] 38) = W) := ⟨_, rfl⟩
  rw [hw1.out] at hl b1 ⊢
  clear hw1 HL
  obtain ⟨L0, hL0⟩ : ∃ G, Hid (w.heap.size = G) := ⟨_, rfl⟩
  rw [hL0.out] at hl ⊢
  have henc : Calls Try.prog 11 #[.slice (some ⟨L0, 0, none⟩) 2 2] w1 _ := encode_any (some ⟨L0, 0, none⟩) 2 awL w1 hl (by decide)
  have B1 := hd b1
  replace hl := hd hl
  clear b1
  go_upto_region 3 with (go_at_call 11; refine henc.mono ?_; intro e w2 he; unfold EncOut at he; rw [aw_may, aw_encF] at he; obtain ⟨a2, c2, rfl, r2, n2, b2⟩ := he)
  clear henc
  have hbl : awB.length = 25 := rfl
  rw [hbl] at r2
  have B2 := hd (B1.out.trans (b2.mono B1.out.size))
  obtain ⟨g2, rfl⟩ := r2.head (by omega)
  have hdec : Calls Try.prog 13 #[.slice (some ⟨g2, 0, none⟩) 25 c2] w2 _ := decode_any (some ⟨g2, 0, none⟩) c2 awB w2 r2.rd (by rw [← aw_enc]; exact enc_byte awL) (by rw [hbl]; exact r2.capLe)
  replace r2 := hd r2
  replace hl := hd (hl.out.below b2)
  clear b2 n2
  go_upto_region 4 with (go_at_call 13; refine hdec.mono ?_; intro e w3 he; unfold DecOut at he; rw [aw_dec] at he; obtain ⟨a3, c3, rfl, r3, n3, b3⟩ := he)
  clear hdec
  have B3 := hd (B2.out.trans (b3.mono B2.out.size))
  replace r2 := hd (r2.out.below b3)
  replace hl := hd (hl.out.below b3)
  replace r3 := hd r3
  clear b3 n3
  have hcv : (convert 27 27 (.slice (some ⟨w3.heap.size, 0, none⟩) 5 5)).run Try.prog (w3.alloc (.cells #[.int .u8 70, .int .u8 66, .int .u8 83, .int .u8 67, .int .u8 2] 5)) = .ok (.slice (some ⟨w3.heap.size, 0, none⟩) 5 5) (w3.alloc (.cells #[.int .u8 70, .int .u8 66, .int .u8 83, .int .u8 67, .int .u8 2] 5 (5, 6))) := Lib.run_convert_bytes_const (P := Try.prog) w3 27 5 #[.int .u8 70, .int .u8 66, .int .u8 83, .int .u8 67, .int .u8 2] 5 5 Try.underlying27 Try.underlying5
  have hdec : Calls Try.prog 13 #[.slice (some ⟨w3.heap.size, 0, none⟩) 5 5] (w3.alloc (.cells #[.int .u8 70, .int .u8 66, .int .u8 83, .int .u8 67, .int .u8 2] 5 (5, 6))) _ := decode_any (some ⟨w3.heap.size, 0, none⟩) 5 awC _ (HC.out w3) (byte_of_mem (by decide)) (by decide)
  have hal := below_al w3 (.cells #[.int .u8 70, .int .u8 66, .int .u8 83, .int .u8 67, .int .u8 2] 5 (5, 6))
  have HAl := hd hal
  clear hal HC
  go_upto_region 5 with (go_at_call 13; refine hdec.mono ?_; intro e w5 he; unfold DecOut at he; rw [aw_bad] at he; obtain ⟨a5, c5, rfl, r5, n5, b5⟩ := he)
  clear hdec hcv n5 r5
  have b35 := HAl.out.trans (b5.mono HAl.out.size)
  have B5 := hd (B3.out.trans (b35.mono B3.out.size))
  replace r2 := hd (r2.out.below b35)
  replace r3 := hd (r3.out.below b35)
  replace hl := hd (hl.out.below b35)
  clear b35 b5 HAl
  have hmm := HM.out w5
  have b6 := below_al w5 (.cells #[.int .i64 1, .int .i64 3, .int .i64 0, .int .i64 3, .int .i64 0, .int .i64 1] 38)
  have hmay : Calls Try.prog 9 #[.slice (some ⟨w5.heap.size, 0, none⟩) 2 2] (w5.alloc (.cells #[.int .i64 1, .int .i64 3, .int .i64 0, .int .i64 3, .int .i64 0, .int .i64 1] 38)) _ := may_any (some ⟨w5.heap.size, 0, none⟩) 2 awM _ hmm (by decide)
  rw [aw_may2] at hmay
  replace b6 := hd b6
  clear HM hmm
  go_upto_region 6 with (go_at_call 9; refine hmay.mono ?_; rintro e w7 ⟨rfl, b7⟩)
  have b57 := b6.out.trans (b7.mono b6.out.size)
  have B7 := hd (B5.out.trans (b57.mono B5.out.size))
  have r27 := r2.out.below b57
  have r37 := r3.out.below b57
  have hl7 := hl.out.below b57
  clear hmay b57 b7 b6 r2 r3 hl B5 B3 B2 B1
  have k8 : w7.cell? ⟨g2, 8, none⟩ = some (.int .u8 2) := by
    obtain ⟨g, e, h⟩ := r27.cell 8 (by omega)
    cases e
    rw [h]; rfl
  have k9 : w7.cell? ⟨g2, 9, none⟩ = some (.int .u8 1) := by
    obtain ⟨g, e, h⟩ := r27.cell 9 (by omega)
    cases e
    rw [h]; rfl
  have hs : Calls Try.prog 15 #[.slice a3 2 c3, .slice (some ⟨L0, 0, none⟩) 2 2] w7 _ := same_yes a3 (some ⟨L0, 0, none⟩) c3 2 awL w7 (by decide) r37.rd hl7
  clear r27 r37 hl7
  go_wp2_with (go_at_call 15; refine hs.mono ?_; rintro e w8 ⟨rfl, hw8⟩; replace hw8 := hd hw8)
  go_ret
  refine ⟨rfl, ?_⟩
  obtain ⟨n, rfl⟩ := hw8.out
  exact B7.out.trans ((below_draw w7 n).mono B7.out.size)
end Go.Proofs.Ytnkanaccacephaa
