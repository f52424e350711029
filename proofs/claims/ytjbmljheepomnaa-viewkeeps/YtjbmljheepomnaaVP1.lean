/- A partition in new memory: copiedPart. -/
import Derived.Test.YtjbmljheepomnaaVO1
import Derived.Test.YtjbmljheepomnaaVG
import Derived.Test.YtjbmljheepomnaaVS0
namespace Go.Proofs.Ytjbmljheepomnaa
open Go.RowKit

structure PI (W3 : World) (a : Option Addr) (n c : Nat) (us : List Value) (qs : List (List Int)) (i : Nat) (wr : World) : Prop where
  ex : ∃ (L : List Value) (b : Nat → Nat), Row wr 23 1 a n c L ∧ b 0 = W3.heap.size ∧ b i = wr.heap.size ∧ (∀ j, j < i → b j ≤ b (j + 1)) ∧ (∀ j, j < i → qO (b j) (b (j + 1)) wr [L.getD j undef] (qs.getD j default)) ∧ (∀ j, i ≤ j → j < n → L.getD j undef = us.getD j undef)
  md : Mod (fun k => blk a = some k) W3 wr
  lt : ∀ k, blk a = some k → k < W3.heap.size
theorem set_getD {L : List Value} {i j : Nat} {v : Value} (hi : i < L.length) : (L.set i v).getD j undef = if j = i then v else L.getD j undef := by
  rw [List.getD_eq_getElem?_getD, List.getElem?_set, List.getD_eq_getElem?_getD]
  by_cases h : i = j
  · subst h
    simp [hi]
  · rw [if_neg h, if_neg (fun e => h e.symm)]
section
variable {W3 wr w1 : World} {a : Option Addr} {n c i m : Nat} {us usq : List Value} {qs : List (List Int)} {v : Value}
theorem PI.step (h : PI W3 a n c us qs i wr) (hi : i < n) (hc : CpOut wr.drew 3 1 m usq (.returned v) w1) (hm : m = (qs.getD i default).length) (hb : m ≤ BIG) (he : ∀ j, j < m → iE w1 (el 1 usq j) ((qs.getD i default).getD j default)) :
    ∃ g, a = some ⟨g, 0, none⟩ ∧ PI W3 a n c us qs (i + 1) (w1.setCell ⟨g, i, none⟩ v) ∧ (∃ u, w1.cell? ⟨g, i, none⟩ = some u) ∧ w1.frozen? ⟨g, i, none⟩ = false ∧ g < W3.heap.size := by
  obtain ⟨⟨L, b, r1, r2, r3, r4, r5, r6⟩, hmd, hlt⟩ := h
  obtain ⟨a', c', e1, k1, k2, k3⟩ := hc
  cases e1
  have hbw := bel_dr k3
  have r1' := r1.below hbw
  obtain ⟨g, rfl, q1, q2, q3⟩ := row_put r1' i (by omega) (.slice a' m c')
  have hg := hlt g rfl
  have hsz : W3.heap.size ≤ wr.heap.size := hmd.size
  have hsz2 : wr.heap.size ≤ w1.heap.size := hbw.size
  have hL : i < L.length := by rw [r1.len]; omega
  have hdr : wr.drew.heap.size = wr.heap.size := rfl
  have hml := mono_le i r4
  refine ⟨g, rfl, ⟨⟨L.set i (.slice a' m c'), fun j => if j ≤ i then b j else w1.heap.size, q1, by simpa using r2, by show (if i + 1 ≤ i then b (i + 1) else w1.heap.size) = _; rw [if_neg (by omega), setCell_size], fun j hj => ?_, fun j hj => ?_, fun j hj hjn => ?_⟩, ?_, hlt⟩, q2, q3, hg⟩
  · by_cases e : j = i
    · subst e
      simp only [Nat.le_refl, if_true]
      rw [if_neg (by omega), r3]
      exact hsz2
    · have h1 : j ≤ i := by omega
      have h2 : j + 1 ≤ i := by omega
      simp only [h1, h2, if_true]
      exact r4 j (by omega)
  · by_cases e : j = i
    · subst e
      simp only [Nat.le_refl, if_true]
      rw [if_neg (by omega), set_getD hL, if_pos rfl, r3]
      refine ⟨_, rfl, ?_⟩
      rw [hm]
      refine OwD.flat (fun _ _ _ _ h => h) (w := w1) (us := usq) ?_ (fun k hk => ?_) hsz2 (by omega) (fun x hx => he x (by omega))
      · rw [← hm]
        exact k1.kept fun k hk => setCell_other _ _ _ _ _ (by rw [k2 k hk, hdr]; omega)
      · have h1 := k1.lt k hk
        have h2 := k2 k hk
        rw [hdr] at h2
        omega
    · have h1 : j ≤ i := by omega
      have h2 : j + 1 ≤ i := by omega
      simp only [h1, h2, if_true]
      rw [set_getD hL, if_neg e]
      have hj1 := hml j h1
      have hj2 := hml (j + 1) h2
      refine (r5 j (by omega)).kept fun k l1 l2 => ?_
      rw [setCell_other _ _ _ _ _ (by omega), hbw.block k (by omega)]
  · rw [set_getD hL, if_neg (by omega)]
    exact r6 j (by omega) hjn
  · exact Mod.setCell (p := ⟨g, i, none⟩) (hmd.after hbw) (.inl rfl) _
end
/-- Short enough to be copied. -/
def PtFew (x : PtX) : Prop := x.lg.length ≤ 1048576 ∧ x.os.length ≤ 1048576 ∧ x.qs.length ≤ 1048576 ∧ ∀ j, (x.qs.getD j default).length ≤ 1048576
def PoOut (w : World) (x : PtX) (e : Ending) (w' : World) : Prop := ∃ cs, e = .returned (.agg cs.toArray) ∧ pO w.heap.size w'.heap.size w' cs x ∧ Below w.heap.size w w'
set_option maxRecDepth 100000 in
set_option maxHeartbeats 4000000 in
theorem copiedPart_any {w : World} {cs : List Value} {x : PtX} (hx : pE w cs x) (hf : PtFew x) : Calls Try.prog 18 #[.agg cs.toArray] w (PoOut w x) := by
  obtain ⟨p0, pl, p2, p3, po, pq⟩ := x
  obtain ⟨u, v, z, e1, k1, k2, k3⟩ := hx
  obtain ⟨f1, f2, f3, f4⟩ := hf
  simp only at e1 k1 k2 k3 f1 f2 f3 f4
  subst e1
  obtain ⟨la, lc, lu, rfl, lr, ll, l1, lB, lE'⟩ := k1.cells (eE.one w)
  obtain ⟨oa, oc, ou, rfl, or', ol, o1, oB, oE⟩ := k2.cells (iE.one w)
  obtain ⟨qa, qc, qu, rfl, qr, ql, q1, qB, qE'⟩ := k3.cells (qE.one w)
  obtain ⟨Q, hQ⟩ : ∃ Q, Hid (PoOut w ⟨p0, pl, p2, p3, po, pq⟩ = Q) := ⟨_, rfl⟩
  rw [hQ.out]
  have HLr := hd lr
  have HOr := hd or'
  have HQr := hd qr
  have HLl := hd ll
  have HOl := hd ol
  have HQl := hd ql
  have HL1 := hd l1
  have HO1 := hd o1
  have HQ1 := hd q1
  have HLE := hd lE'
  have HOE := hd oE
  have HQE := hd qE'
  have HF4 := hd f4
  clear lr or' qr ll ol ql l1 o1 q1 lE' oE qE' f4 k1 k2 k3
  obtain ⟨nl, hnl⟩ : ∃ n, Hid (pl.length = n) := ⟨_, rfl⟩
  obtain ⟨no, hno⟩ : ∃ n, Hid (po.length = n) := ⟨_, rfl⟩
  obtain ⟨nq, hnq⟩ : ∃ n, Hid (pq.length = n) := ⟨_, rfl⟩
  rw [hnl.out] at HLl HLE f1 lB ⊢
  rw [hno.out] at HOl HOE f2 oB ⊢
  rw [hnq.out] at HQl HQE f3 qB ⊢
  have F1 := hd f1
  have F2 := hd f2
  clear f1 f2 lB oB qB
  go_enter Try.func18, Try.ntmps18
  go_upto_region 1 with fail
  obtain ⟨W0, hW0⟩ : ∃ W, Hid ((w.alloc (.cells #[.int .i64 p0, .slice la nl lc, .int .i64 p2, .int .i64 p3, .slice oa no oc, .slice qa nq qc] 43)).alloc (.cells #[.int .i64 0, .slice none 0 0, .int .i64 0, .int .i64 0, .slice none 0 0, .slice none 0 0] 43) = W) := ⟨_, rfl⟩
  obtain ⟨h1, h2⟩ := two_box (w := w) #[.int .i64 p0, .slice la nl lc, .int .i64 p2, .int .i64 p3, .slice oa no oc, .slice qa nq qc] #[.int .i64 0, .slice none 0 0, .int .i64 0, .int .i64 0, .slice none 0 0, .slice none 0 0] 43
  have hs0 : ((w.alloc (.cells #[.int .i64 p0, .slice la nl lc, .int .i64 p2, .int .i64 p3, .slice oa no oc, .slice qa nq qc] 43)).alloc (.cells #[.int .i64 0, .slice none 0 0, .int .i64 0, .int .i64 0, .slice none 0 0, .slice none 0 0] 43)).heap.size = w.heap.size + 2 := by simp
  rw [hW0.out] at h1 h2 hs0 ⊢
  obtain ⟨B, hB⟩ : ∃ n, Hid (w.heap.size = n) := ⟨_, rfl⟩
  rw [hB.out] at h1 hs0 ⊢
  have S0 := hd hs0
  have BW0 := hd h2
  have hbx := h1 W0 (below_same _)
  have BX0 := hd hbx.1
  have BR0 := hd hbx.2
  clear h1 h2 hW0 hs0 hbx
  have c1 := copied_ent (c := lc) (HLr.out.below BW0.out) HLl.out HL1.out F1.out
  have x1 := box_at1 BX0.out (j := 1) rfl
  simp at x1
  go_upto_region 2 with (go_at_call 28; (with_reducible refine c1.mono ?_); rintro e w1 ⟨a1, d1, rfl, r1, n1, b1⟩; have R1 := hd r1; have N1 := hd n1; have BW1 := hd b1; have BX1 := hd ((b1.block B (Array.getElem?_eq_some_iff.1 BX0.out).1).trans BX0.out); have y1 := box_at1 BX1.out (j := 1) rfl; have y2 := box_free BX1.out 1; clear r1 n1 b1; simp at y1)
  obtain ⟨W1, hW1⟩ : ∃ W, Hid (w1.setCell ⟨B, 1, none⟩ (.slice a1 nl d1) = W) := ⟨_, rfl⟩
  rw [hW1.out]
  have S1 : Hid (B + 2 ≤ W1.heap.size) := hd (by rw [← hW1.out, setCell_size, ← S0.out]; exact BW1.out.size)
  have BY1 : Hid (W1.heap[B]? = some (.cells #[.int .i64 p0, .slice a1 nl d1, .int .i64 p2, .int .i64 p3, .slice oa no oc, .slice qa nq qc] 43 (0, 0))) := hd (by rw [← hW1.out]; exact box_put BX1.out 1 _)
  have BZ1 : Hid (Below w.heap.size w W1) := hd (by rw [← hW1.out]; exact below_set (BW0.out.trans (BW1.out.mono BW0.out.size)) (by rw [hB.out]; exact Nat.le_refl _))
  have BQ1 : Hid (∀ k, k ≠ B → k < W0.heap.size → W1.heap[k]? = W0.heap[k]?) := hd (fun k hk hk2 => by rw [← hW1.out, setCell_other _ _ _ _ _ hk]; exact BW1.out.block k hk2)
  have RR1 : Hid (Row W1 45 3 a1 nl d1 lu) := hd (R1.out.kept fun k hk => by rw [← hW1.out]; exact setCell_other _ _ _ _ _ (by have := N1.out k hk; rw [this, S0.out]; omega))
  have RN1 : Hid (∀ k, blk a1 = some k → B + 2 ≤ k ∧ k < W1.heap.size) := hd (fun k hk => ⟨by rw [N1.out k hk, S0.out]; exact Nat.le_refl _, RR1.out.lt k hk⟩)
  clear hW1 R1 N1 BW1 BX1 BX0 y1 y2 x1 c1
  have c2 := copied_int (c := oc) (HOr.out.below BZ1.out) HOl.out HO1.out F2.out
  have x1 := box_at1 BY1.out (j := 4) rfl
  simp at x1
  go_upto_region 3 with (go_at_call 29; (with_reducible refine c2.mono ?_); rintro e w2 ⟨a2, d2, rfl, r1, n1, b1⟩; have R2 := hd r1; have N2 := hd n1; have BW2 := hd b1; have BX2 := hd ((b1.block B (Array.getElem?_eq_some_iff.1 BY1.out).1).trans BY1.out); have y1 := box_at1 BX2.out (j := 4) rfl; have y2 := box_free BX2.out 4; clear r1 n1 b1; simp at y1)
  obtain ⟨W2, hW2⟩ : ∃ W, Hid (w2.setCell ⟨B, 4, none⟩ (.slice a2 no d2) = W) := ⟨_, rfl⟩
  rw [hW2.out]
  have S2 : Hid (W1.heap.size ≤ W2.heap.size) := hd (by rw [← hW2.out, setCell_size]; exact BW2.out.size)
  have BY2 : Hid (W2.heap[B]? = some (.cells #[.int .i64 p0, .slice a1 nl d1, .int .i64 p2, .int .i64 p3, .slice a2 no d2, .slice qa nq qc] 43 (0, 0))) := hd (by rw [← hW2.out]; exact box_put BX2.out 4 _)
  have BZ2 : Hid (Below w.heap.size w W2) := hd (by rw [← hW2.out]; exact below_set (BZ1.out.trans (BW2.out.mono BZ1.out.size)) (by rw [hB.out]; exact Nat.le_refl _))
  have BQ2 : Hid (∀ k, k ≠ B → k < W1.heap.size → W2.heap[k]? = W1.heap[k]?) := hd (fun k hk hk2 => by rw [← hW2.out, setCell_other _ _ _ _ _ hk]; exact BW2.out.block k hk2)
  have RR2 : Hid (Row W2 3 1 a2 no d2 ou) := hd (R2.out.kept fun k hk => by rw [← hW2.out]; exact setCell_other _ _ _ _ _ (by have := N2.out k hk; have := S1.out; omega))
  have RN2 : Hid (∀ k, blk a2 = some k → W1.heap.size ≤ k ∧ k < W2.heap.size) := hd (fun k hk => ⟨by rw [N2.out k hk]; exact Nat.le_refl _, RR2.out.lt k hk⟩)
  clear hW2 R2 N2 BW2 BX2 BY1 y1 y2 x1 c2
  have c3 := copied_que (c := qc) (HQr.out.below BZ2.out) HQl.out HQ1.out f3
  have x1 := box_at1 BY2.out (j := 5) rfl
  simp at x1
  go_upto_region 4 with (go_at_call 30; (with_reducible refine c3.mono ?_); rintro e w3 ⟨a3, d3, rfl, r1, n1, b1⟩; have R3 := hd r1; have N3 := hd n1; have BW3 := hd b1; have BX3 := hd ((b1.block B (Array.getElem?_eq_some_iff.1 BY2.out).1).trans BY2.out); have y1 := box_at1 BX3.out (j := 5) rfl; have y2 := box_free BX3.out 5; clear r1 n1 b1; simp at y1)
  obtain ⟨W3, hW3⟩ : ∃ W, Hid (w3.setCell ⟨B, 5, none⟩ (.slice a3 nq d3) = W) := ⟨_, rfl⟩
  rw [hW3.out]
  have S3 : Hid (W2.heap.size ≤ W3.heap.size) := hd (by rw [← hW3.out, setCell_size]; exact BW3.out.size)
  have BY3 : Hid (W3.heap[B]? = some (.cells #[.int .i64 p0, .slice a1 nl d1, .int .i64 p2, .int .i64 p3, .slice a2 no d2, .slice a3 nq d3] 43 (0, 0))) := hd (by rw [← hW3.out]; exact box_put BX3.out 5 _)
  have BZ3 : Hid (Below w.heap.size w W3) := hd (by rw [← hW3.out]; exact below_set (BZ2.out.trans (BW3.out.mono BZ2.out.size)) (by rw [hB.out]; exact Nat.le_refl _))
  have BQ3 : Hid (∀ k, k ≠ B → k < W2.heap.size → W3.heap[k]? = W2.heap[k]?) := hd (fun k hk hk2 => by rw [← hW3.out, setCell_other _ _ _ _ _ hk]; exact BW3.out.block k hk2)
  have RR3 : Hid (Row W3 23 1 a3 nq d3 qu) := hd (R3.out.kept fun k hk => by rw [← hW3.out]; exact setCell_other _ _ _ _ _ (by have := N3.out k hk; have := S1.out; have := S2.out; omega))
  have RN3 : Hid (∀ k, blk a3 = some k → W2.heap.size ≤ k ∧ k < W3.heap.size) := hd (fun k hk => ⟨by rw [N3.out k hk]; exact Nat.le_refl _, RR3.out.lt k hk⟩)
  have BR3 : Hid (W3.heap[B + 1]? = some (.cells #[.int .i64 0, .slice none 0 0, .int .i64 0, .int .i64 0, .slice none 0 0, .slice none 0 0] 43 (0, 0))) := hd (by
    have s1 := S1.out
    have s2 := S2.out
    have s0 := S0.out
    rw [BQ3.out _ (by omega) (by omega), BQ2.out _ (by omega) (by omega), BQ1.out _ (by omega) (by omega)]
    exact BR0.out)
  have LG : Hid (OwD 45 3 (fun _ _ => eE) (B + 2) W1.heap.size W3 (.slice a1 nl d1) pl) := hd (by
    have s1 := S1.out
    have s2 := S2.out
    have hb := hB.out
    have h0 := OwD.flat (E := eE) (fun _ _ _ _ h => h) (xs := pl) (lo := B + 2) (hi := W1.heap.size) (by rw [hnl.out]; exact RR1.out) RN1.out s1 (by rw [hnl.out]; have := F1.out; unfold BIG; omega) (fun i hi => HLE.out i (by rw [← hnl.out]; exact hi))
    rw [hnl.out] at h0
    exact h0.kept (w' := W3) (fun k l1 l2 => by rw [BQ3.out k (by omega) (by omega), BQ2.out k (by omega) (by omega)]) fun _ _ _ _ _ _ h => h)
  have LO : Hid (OwD 3 1 (fun _ _ => iE) W1.heap.size W2.heap.size W3 (.slice a2 no d2) po) := hd (by
    have s1 := S1.out
    have s2 := S2.out
    have h0 := OwD.flat (E := iE) (fun _ _ _ _ h => h) (xs := po) (lo := W1.heap.size) (hi := W2.heap.size) (by rw [hno.out]; exact RR2.out) RN2.out s2 (by rw [hno.out]; have := F2.out; unfold BIG; omega) (fun i hi => HOE.out i (by rw [← hno.out]; exact hi))
    rw [hno.out] at h0
    exact h0.kept (w' := W3) (fun k l1 l2 => BQ3.out k (by omega) (by omega)) fun _ _ _ _ _ _ h => h)
  have P0 : Hid (PI W3 a3 nq d3 qu pq 0 W3) := hd ⟨⟨qu, fun _ => W3.heap.size, RR3.out, rfl, rfl, fun j hj => absurd hj (Nat.not_lt_zero j), fun j hj => absurd hj (Nat.not_lt_zero j), fun j _ _ => rfl⟩, Mod.refl _ _, fun k hk => (RN3.out k hk).2⟩
  have HX3 : Hid (∀ wr i, PI W3 a3 nq d3 qu pq i wr → wr.heap[B]? = some (.cells #[.int .i64 p0, .slice a1 nl d1, .int .i64 p2, .int .i64 p3, .slice a2 no d2, .slice a3 nq d3] 43 (0, 0)) ∧ wr.heap[B + 1]? = some (.cells #[.int .i64 0, .slice none 0 0, .int .i64 0, .int .i64 0, .slice none 0 0, .slice none 0 0] 43 (0, 0)) ∧ Below w.heap.size w wr) := hd (fun wr i h => by
    have s1 := S1.out
    have s2 := S2.out
    have s3 := S3.out
    have hb := hB.out
    refine ⟨?_, ?_, ?_⟩
    · rw [h.md.block B (by omega) (fun e => by have := RN3.out B e; omega)]; exact BY3.out
    · rw [h.md.block (B + 1) (by omega) (fun e => by have := RN3.out (B + 1) e; omega)]; exact BR3.out
    · exact BZ3.out.trans (h.md.below (by omega) (fun k _ e => by have := RN3.out k e; omega)))
  have HNB : Hid (∀ g : Nat, a3 = some ⟨g, 0, none⟩ → B ≠ g ∧ g ≠ B) := hd (fun g e => by
    have := RN3.out g (by rw [e]; rfl)
    have s1 := S1.out
    have s2 := S2.out
    omega)
  have S12 : Hid (B + 2 ≤ W1.heap.size ∧ W1.heap.size ≤ W2.heap.size ∧ W2.heap.size ≤ W3.heap.size) := hd ⟨S1.out, S2.out, S3.out⟩
  have HQn : Hid (qu.length = nq) := hd (by have := HQl.out; omega)
  have RN4 : Hid (∀ k, blk a3 = some k → W2.heap.size ≤ k ∧ k < W3.heap.size) := RN3
  have x1 := box_at1 BY3.out (j := 5) rfl
  simp at x1
  clear hW3 R3 N3 BW3 BX3 BY2 BY3 y1 y2 c3 RR1 RR2 RR3 RN1 RN2 RN3 BQ1 BQ2 BQ3 BR0 BR3 S0 S1 S2 S3 BZ1 BZ2 BZ3 BW0 HLr HOr HLl HOl HL1 HO1 HQ1 HLE HOE F1 F2 hnl hno
  go_wp2_with fail
  go_loopg [20] nq (fun k v20 wr => ∃ (i : Nat), v20 = .int .i64 (i : Int) ∧ i + k = nq ∧ Hid (PI W3 a3 nq d3 qu pq i wr))
  case atStart => exact ⟨0, rfl, by omega, P0⟩
  case round =>
    obtain ⟨i, rfl, hik, HP⟩ := hrel
    clear P0 x1
    obtain ⟨bx, br, bw⟩ := HX3.out wr i HP.out
    by_cases hlt : i < nq
    · have hlt' : (i : Int) < (nq : Int) := by omega
      obtain ⟨vq, eq', dq⟩ := HQE.out i hlt
      have hql := HQn.out
      rw [el_one qu i (by omega)] at eq'
      obtain ⟨aq, cq, uq, rfl, rq, lq, oq, bq, sq⟩ := dq.cells (iE.one w)
      have evq : qu.getD i undef = .slice aq (pq.getD i default).length cq := by simpa using eq'
      obtain ⟨L, b, r1, -, -, -, -, r6⟩ := HP.out.ex
      obtain ⟨g, rfl, fq⟩ := r1.cell i (by omega)
      have hLl : i < L.length := by rw [r1.len]; omega
      rw [List.getElem?_eq_getElem hLl] at fq
      have hLi : L[i] = .slice aq (pq.getD i default).length cq := by
        rw [← evq, ← r6 i (Nat.le_refl _) hlt, List.getD_eq_getElem?_getD, List.getElem?_eq_getElem hLl]
        rfl
      rw [hLi] at fq
      have hst := copied_int (c := cq) (rq.below (bw.trans ((bel_drew wr).mono bw.size))) lq oq (HF4.out i)
      have HS : Hid (∀ v w1, CpOut wr.drew 3 1 (pq.getD i default).length uq (.returned v) w1 → PI W3 (some ⟨g, 0, none⟩) nq d3 qu pq (i + 1) (w1.setCell ⟨g, i, none⟩ v) ∧ (∃ u, w1.cell? ⟨g, i, none⟩ = some u) ∧ w1.frozen? ⟨g, i, none⟩ = false) := hd (fun v w1 hc => by
        obtain ⟨g', e', h1, h2, h3, h4⟩ := HP.out.step hlt hc rfl bq sq
        cases e'
        exact ⟨h1, h2, h3⟩)
      obtain ⟨hn1, hn2⟩ := HNB.out g rfl
      have f5 := box_at1 bx (j := 5) rfl
      simp at f5
      have H5 : Hid (∀ V, Below wr.heap.size wr V → V.cell? ⟨B, 5, none⟩ = some (.slice (some ⟨g, 0, none⟩) nq d3)) := hd (fun V hb => (hb.cell (World.block_lt_of_cell? wr _ f5)).trans f5)
      obtain ⟨N, hN⟩ : ∃ n, Hid ((pq.getD i default).length = n) := ⟨_, rfl⟩
      rw [hN.out] at hst fq HS
      clear rq lq oq bq sq evq r1 r6 hLl hLi eq' dq bx br bw hN hql
      go_upto_region 7 with fail
      go_region_held3 (fun w' => w'.cell? ⟨B, 5, none⟩ = some (.slice (some ⟨g, 0, none⟩) nq d3)) (go_keep)
        (first
          | (go_at_call 29; (with_reducible refine hst.mono ?_); rintro e w2 ⟨a9, c9, rfl, r9, n9, b9⟩; obtain ⟨hP2, ⟨u2, hu2⟩, hf2⟩ := HS.out _ w2 ⟨a9, c9, rfl, r9, n9, b9⟩; have hP2' := hd hP2; have g5 := H5.out w2 (bel_dr b9); clear hP2 r9 n9))
      all_goals (
        go_wp2_with fail
        go_roundg (gk - 1)
        case rel => exact ⟨i + 1, by go_num, by omega, hP2'⟩
        case measure => omega)
    · obtain rfl : i = nq := by omega
      obtain ⟨g1, g2, g3⟩ := set6 br (.int .i64 p0) (.slice a1 nl d1) (.int .i64 p2) (.int .i64 p3) (.slice a2 no d2) (.slice a3 i d3)
      have g4 := set6_below (A := w.heap.size) (B := B + 1) bw (by have := hB.out; omega) (.int .i64 p0) (.slice a1 nl d1) (.int .i64 p2) (.int .i64 p3) (.slice a2 no d2) (.slice a3 i d3)
      obtain ⟨FW, hFW⟩ : ∃ W, Hid (((((((wr.setCell ⟨B + 1, 0, none⟩ (.int .i64 p0)).setCell ⟨B + 1, 1, none⟩ (.slice a1 nl d1)).setCell ⟨B + 1, 2, none⟩ (.int .i64 p2)).setCell ⟨B + 1, 3, none⟩ (.int .i64 p3)).setCell ⟨B + 1, 4, none⟩ (.slice a2 no d2)).setCell ⟨B + 1, 5, none⟩ (.slice a3 i d3)) = W) := ⟨_, rfl⟩
      rw [hFW.out] at g1 g2 g3 g4
      have HZ := hd g1
      have HO : Hid (Q (.returned (.agg #[.int .i64 p0, .slice a1 nl d1, .int .i64 p2, .int .i64 p3, .slice a2 no d2, .slice a3 i d3])) FW) := hd (by
        rw [← hQ.out]
        obtain ⟨s1, s2, s3⟩ := S12.out
        have hb := hB.out
        have hm := HP.out.md
        obtain ⟨L, b, r1, r2, r3, r4, r5, r6⟩ := HP.out.ex
        have hml := mono_le i r4
        have hms := hm.size
        refine ⟨_, rfl, ⟨_, _, _, W1.heap.size, W2.heap.size, rfl, by omega, s2, by rw [g2]; omega, ?_, ?_, ?_⟩, g4⟩
        · exact (LG.out.kept (w' := FW) (fun k l1 l2 => by rw [g3 k (by omega)]; exact hm.block k (by omega) (fun e => by have := RN4.out k e; omega)) fun _ _ _ _ _ _ h => h).wide (by omega) (Nat.le_refl _)
        · exact LO.out.kept (w' := FW) (fun k l1 l2 => by rw [g3 k (by omega)]; exact hm.block k (by omega) (fun e => by have := RN4.out k e; omega)) fun _ _ _ _ _ _ h => h
        · have hq1 := hnq.out
          refine ⟨a3, d3, L, b, by rw [hq1], ?_, fun k hk => by have := RN4.out k hk; omega, by omega, fun j hj => r4 j (by rw [← hq1]; exact hj), by rw [hq1, r3, g2]; exact Nat.le_refl _, by rw [hq1]; unfold BIG; omega, fun j hj => ?_⟩
          · rw [hq1]
            exact r1.kept fun k hk => g3 k (by have := RN4.out k hk; omega)
          · replace hj : j < i := by rw [← hq1]; exact hj
            rw [el_one L j (by rw [r1.len]; omega)]
            exact (r5 j hj).kept fun k l1 l2 => g3 k (by have := (hml j (by omega)).1; omega))
      clear g1 g2 g3 g4
      have v0 := box_at1 bx (j := 0) rfl
      have v1 := box_at1 bx (j := 1) rfl
      have v2 := box_at1 bx (j := 2) rfl
      have v3 := box_at1 bx (j := 3) rfl
      have v4 := box_at1 bx (j := 4) rfl
      have v5 := box_at1 bx (j := 5) rfl
      have z0 := box_at1 br (j := 0) rfl
      have z1 := box_at1 br (j := 1) rfl
      have z2 := box_at1 br (j := 2) rfl
      have z3 := box_at1 br (j := 3) rfl
      have z4 := box_at1 br (j := 4) rfl
      have z5 := box_at1 br (j := 5) rfl
      have zf : ∀ j, wr.frozen? ⟨B + 1, j, none⟩ = false := fun j => box_free br j
      clear HP bx br bw hlt hik HQE HF4 HX3 HNB S12 RN4 LG LO HQl HQn hQ hB hnq
      go_wp2_with fail
      rw [hFW.out]
      refine bodyPost_ret (v := .agg #[.int .i64 p0, .slice a1 nl d1, .int .i64 p2, .int .i64 p3, .slice a2 no d2, .slice a3 i d3]) ?_ rfl HO.out
      have y0 := box_at1 HZ.out (j := 0) rfl
      have y1 := box_at1 HZ.out (j := 1) rfl
      have y2 := box_at1 HZ.out (j := 2) rfl
      have y3 := box_at1 HZ.out (j := 3) rfl
      have y4 := box_at1 HZ.out (j := 4) rfl
      have y5 := box_at1 HZ.out (j := 5) rfl
      clear HO HZ v0 v1 v2 v3 v4 v5 z0 z1 z2 z3 z4 z5 zf
      simp at y0 y1 y2 y3 y4 y5
      simp [results, Try.results18, go_sem, y0, y1, y2, y3, y4, y5]
end Go.Proofs.Ytjbmljheepomnaa
