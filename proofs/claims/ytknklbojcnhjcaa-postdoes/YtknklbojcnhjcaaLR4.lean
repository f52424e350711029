/- The document's side: Take. -/
import Derived.Test.YtknklbojcnhjcaaLR3
namespace Go.Proofs.Ytknklbojcnhjcaa
open Go.RowKit

/-- All but the first, in new memory. -/
theorem tail_i {w : World} {g N c : Nat} {v : Int} {r : List Int} (hR : Row w 2 1 (some ⟨g, 0, none⟩) N c (iC (v :: r))) (hN : N = r.length + 1) (hn : r.length ≤ 8000000000000) :
    ∃ a' c' w', (∀ ty, (Builtin.append_ #[26, 26] ty #[.slice (some ⟨w.heap.size, 0, none⟩) 0 0, .slice (if c = 1 then some ⟨g, 0, none⟩ else some ⟨g, 1, none⟩) (N - 1) (c - 1)]).run Try.prog (w.alloc (.cells #[] 2)) = .ok (.slice a' (N - 1) c') w') ∧
      Row w' 2 1 a' (N - 1) c' (iC r) ∧ Below w.heap.size w w' ∧ (∀ k, blk a' = some k → w.heap.size ≤ k) := by
  have hcap := hR.capLe
  have e : N - 1 = r.length := by omega
  rw [e]
  refine clone_i ?_ hn
  by_cases hc : c = 1
  · rw [if_pos hc]
    have : r = [] := List.eq_nil_of_length_eq_zero (by omega)
    rw [this]
    intro j u hj
    simp [iC] at hj
  · rw [if_neg hc]
    exact rd_drop hR.rd 1
theorem tail_w {w : World} {g N c : Nat} {v : Int × Int} {r : List (Int × Int)} (hR : Row w 52 2 (some ⟨g, 0, none⟩) N c (wC (v :: r))) (hN : N = r.length + 1) (hn : r.length ≤ 8000000000000) :
    ∃ a' c' w', (∀ ty, (Builtin.append_ #[27, 27] ty #[.slice (some ⟨w.heap.size, 0, none⟩) 0 0, .slice (if c = 1 then some ⟨g, 0, none⟩ else some ⟨g, 2, none⟩) (N - 1) (c - 1)]).run Try.prog (w.alloc (.cells #[] 52)) = .ok (.slice a' (N - 1) c') w') ∧
      Row w' 52 2 a' (N - 1) c' (wC r) ∧ Below w.heap.size w w' ∧ (∀ k, blk a' = some k → w.heap.size ≤ k) := by
  have hcap := hR.capLe
  have e : N - 1 = r.length := by omega
  rw [e]
  refine clone_w ?_ hn
  by_cases hc : c = 1
  · rw [if_pos hc]
    have : r = [] := List.eq_nil_of_length_eq_zero (by omega)
    rw [this]
    intro j u hj
    simp [wC] at hj
  · rw [if_neg hc]
    exact rd_drop hR.rd 2

set_option maxRecDepth 100000 in
set_option maxHeartbeats 1000000 in
theorem rtake_none {b : Nat} {F : Nat → Prop} {s : LS} {w : World} (h : Ln w 91 b F s) (hs : s.vs = []) :
    Calls Try.prog 53 #[.pointer (some ⟨b, 0, none⟩)] w fun e w' => e = .returned (tkV (0, (0, 0), false, 21)) ∧ LnOut w 91 b F s w' := by
  have hb := below_al w (.cells #[.int .i64 0, .int .i64 0] 52)
  have HL := hd h
  obtain ⟨a1, c1, a2, c2, h, -, -⟩ := h
  have k1 := (h.below hb).cells.2.1
  rw [hs] at k1
  have HB := hd hb
  clear h hs hb
  go_enter Try.func53, Try.ntmps53
  go_wp2_with fail
  refine bodyPost_ret (v := tkV (0, (0, 0), false, 21)) (by simp [results, Try.results53, go_sem, tkV]) rfl ⟨rfl, LnOut.same HL.out ?_⟩
  exact HB.out

set_option maxRecDepth 100000 in
set_option maxHeartbeats 2000000 in
theorem rtake_some {b : Nat} {F : Nat → Prop} {s : LS} {w : World} (h : Ln w 91 b F s) (hg : Good s) {v : Int} {r : List Int} (hs : s.vs = v :: r) (hn : s.ws.length ≤ 8000000000000) :
    Calls Try.prog 53 #[.pointer (some ⟨b, 0, none⟩)] w fun e w' => e = .returned (tkV (takeL s).1) ∧ LnOut w 91 b F (takeL s).2 w' := by
  have hb := below_al w (.cells #[.int .i64 0, .int .i64 0] 52)
  have hlen := hg.len
  have hr2 := hg.r2
  have hmo := fun W => rmore_any s.tk W hg.may.2.2.2.1
  obtain ⟨a1, c1, a2, c2, h, hF, hlt⟩ := h
  obtain ⟨gv, rfl⟩ := h.vals.head (by rw [hs]; simp)
  have hvl : Hid (s.vs.length = r.length + 1) := hd (by rw [hs]; simp)
  have HT : Hid (LnTo w 91 b (some ⟨gv, 0, none⟩) a2 s (w.alloc (.cells #[.int .i64 0, .int .i64 0] 52)) (some ⟨gv, 0, none⟩) c1 a2 c2) := hd ⟨h.below hb, Mod.of_below _ hb, fun k hk => .inl hk⟩
  have HX : Hid (Box2 (w.alloc (.cells #[.int .i64 0, .int .i64 0] 52)) 52 w.heap.size 0 0) := hd (box_new _ _ _ _)
  have hgs : Hid (∀ k, fp b (some ⟨gv, 0, none⟩) a2 k → k < w.heap.size) := hd h.lt
  have HF := hd hF
  have HS := hd hs
  obtain ⟨Q, hQ⟩ : ∃ Q : Ending → World → Prop, Hid ((fun e w' => e = .returned (tkV (takeL s).1) ∧ LnOut w 91 b F (takeL s).2 w') = Q) := ⟨_, rfl⟩
  rw [hQ.out]
  have k1 := HT.out.at'.cells.2.1
  have hcap := h.vals.capLe
  have hcm : c1 ≤ 9223372036854775807 := by have := h.vals.2.2.1; unfold maxLen at this; omega
  clear h hF hlt hb hs hg
  obtain ⟨N, hN⟩ : ∃ N, Hid (s.vs.length = N) := ⟨_, rfl⟩
  rw [hN.out] at hlen k1 hcap
  have hN0 : (0 : Int) < (N : Int) := by have h1 := hvl.out; have h2 := hN.out; omega
  have hN0' : 0 < N := by omega
  have e00 : ((N : Int) == 0) = false := by simp; omega
  have hc1 : (1 : Int) ≤ (N : Int) := by omega
  have hNc : (N : Int) ≤ (c1 : Int) := by omega
  go_enter Try.func53, Try.ntmps53
  go_upto_region 3 with fail
  obtain ⟨G, hG⟩ : ∃ G, Hid (w.heap.size = G) := ⟨_, rfl⟩
  obtain ⟨w1, hw1⟩ : ∃ W, Hid (w.alloc (.cells #[.int .i64 0, .int .i64 0] 52) = W) := ⟨_, rfl⟩
  rw [hw1.out] at HT HX k1 ⊢
  rw [hG.out] at HX ⊢
  clear hw1
  -- the first message
  obtain ⟨_, _, ev, p2⟩ := rd_i HT.out.at'.vals.rd 0 (by rw [hvl.out]; omega)
  cases ev
  rw [HS.out] at p2
  simp only [List.getD_cons_zero, Nat.zero_add] at p2
  obtain ⟨m, hm⟩ : ∃ m, Hid (N - 1 = m) := ⟨_, rfl⟩
  have hrow := HT.out.at'.vals
  rw [HS.out] at hrow
  rw [← HS.out, hN.out] at hrow
  obtain ⟨a', c', w2, hap, R2, b2, B2⟩ := tail_i (v := v) (r := r) (by rw [HS.out] at hrow; exact hrow) (by have := hvl.out; have := hN.out; omega) (by have := hvl.out; have := hN.out; omega)
  rw [hm.out] at hap R2
  have q1 := (HT.out.at'.below (below_al w1 (.cells #[] 2))).cells.2.1
  rw [hN.out] at q1
  have h2 := HT.out.bel b2
  have z1 := h2.at'.cells.2.1
  have z2 := h2.at'.free 1
  rw [hN.out] at z1
  have HE2 : Hid (LnTo w 91 b (some ⟨gv, 0, none⟩) a2 { s with vs := r } (w2.setCell ⟨b, 1, none⟩ (.slice a' m c')) a' c' a2 c2 ∧ Box2 (w2.setCell ⟨b, 1, none⟩ (.slice a' m c')) 52 G 0 0) := hd (by
    refine ⟨HT.out.putV (Mod.of_below _ b2) (vs := r) R2 ?_ (fun k hk => .inr (B2 k hk)), (HX.out.bel b2).set (fun e => ?_) _ _⟩
    · have h1 := hvl.out
      have h2 := hN.out
      have h3 := hm.out
      omega
    · have := hgs.out b (.inl rfl)
      have := hG.out
      omega)
  have hB2 : Hid (G < w1.heap.size) := hd HX.out.lt
  clear HX HT h2 R2 hrow
  obtain ⟨A1, hA1⟩ : ∃ A, (if c1 = 1 then some ⟨gv, 0, none⟩ else some ⟨gv, 1, none⟩ : Option Addr) = A := ⟨_, rfl⟩
  rw [hA1] at hap
  have hap := hd hap
  have hm1 : N - 1 = m := hm.out
  go_upto_region 5 with (first | (at_builtin; refine wpList_append_run rfl _ _ _ rfl _ _ _ _ rfl rfl hap.out ?_; clear hap))
  obtain ⟨w3, hw3⟩ : ∃ W, Hid (w2.setCell ⟨b, 1, none⟩ (.slice a' m c') = W) := ⟨_, rfl⟩
  rw [hw3.out] at HE2 ⊢
  clear hw3 z1 z2 q1 p2 k1 hm1 hap hA1
  -- how many were taken
  have p3 := HE2.out.1.at'.cells.2.2.2.1
  have p4 := HE2.out.1.at'.free 3
  have hmo3 := hmo w3
  have hGb : Hid (G ≠ b) := hd (fun e => by have := hgs.out b (.inl rfl); have := hG.out; omega)
  have HT4 : Hid (LnTo w 91 b (some ⟨gv, 0, none⟩) a2 { s with vs := r, tk := moreL s.tk } (w3.setCell ⟨b, 3, none⟩ (.int .i64 (moreL s.tk))) a' c' a2 c2) := hd (HE2.out.1.putT (moreL s.tk))
  have HX4 : Hid (Box2 (w3.setCell ⟨b, 3, none⟩ (.int .i64 (moreL s.tk))) 52 G 0 0) := hd (HE2.out.2.set hGb.out _ _)
  have hgn4 : Hid (¬ fp b a' a2 G) := hd (fun hk => by
    rcases hk with hk | hk | hk
    · exact hGb.out hk
    · have := B2 G hk; have := hB2.out; omega
    · have := hgs.out G (.inr (.inr hk)); have := hG.out; omega)
  simp only at p3
  go_upto_region 6 with (first | (go_at_call 69; refine hmo3.mono ?_; rintro e4 w3 ⟨rfl, rfl⟩))
  obtain ⟨w4, hw4⟩ : ∃ W, Hid (w3.setCell ⟨b, 3, none⟩ (.int .i64 (moreL s.tk)) = W) := ⟨_, rfl⟩
  rw [hw4.out] at HT4 HX4 ⊢
  clear hw4 p3 p4 hmo3 hmo HE2 B2
  have p2 := HT4.out.at'.cells.2.2.1
  simp only at p2
  have x0 := HX4.out.c0
  have x1 := HX4.out.c1
  have x2 := HX4.out.fr 0
  have x3 := HX4.out.fr 1
  rcases hws : s.ws with _ | ⟨⟨wp, wv⟩, q⟩
  · have HFI : Hid (Q (.returned (tkV (v, (0, 0), false, 0))) ((w4.setCell ⟨G, 0, none⟩ (.int .i64 0)).setCell ⟨G, 1, none⟩ (.int .i64 0))) := hd (by
      rw [← hQ.out]
      have e1 : takeL s = ((v, (0, 0), false, 0), { s with vs := r, tk := moreL s.tk }) := by unfold takeL; rw [HS.out, hws]
      rw [e1]
      exact ⟨rfl, ((HT4.out.other hgn4.out (by have := hG.out; omega) 0 _).other hgn4.out (by have := hG.out; omega) 1 _).out HF.out⟩)
    rw [hws] at p2
    have x4 := (HX4.out.put 0 0).c0
    have x5 := (HX4.out.put 0 0).c1
    clear HT4 HX4
    go_wp2_with fail
    refine bodyPost_ret (v := tkV (v, (0, 0), false, 0)) (by simp [results, Try.results53, go_sem, tkV, x4, x5]) rfl HFI.out
  · have hwl : Hid (s.ws.length = q.length + 1) := hd (by rw [hws]; simp)
    obtain ⟨gw, rfl⟩ := HT4.out.at'.wts.head (by simp only; rw [hwl.out]; omega)
    have HWS : Hid (s.ws = (wp, wv) :: q) := hd hws
    clear hws
    obtain ⟨M, hM⟩ : ∃ M, Hid (s.ws.length = M) := ⟨_, rfl⟩
    have hM0 : (0 : Int) < (M : Int) := by have h1 := hwl.out; have h2 := hM.out; omega
    have hM0' : 0 < M := by omega
    have e01 : ((M : Int) == 0) = false := by simp; omega
    have hM1 : (1 : Int) ≤ (M : Int) := by omega
    obtain ⟨_, _, ew, p5, p6⟩ := rd_w HT4.out.at'.wts.rd 0 (by simp only; rw [hwl.out]; omega)
    cases ew
    simp only at p5 p6
    rw [HWS.out] at p5 p6
    simp only [List.getD_cons_zero, Nat.zero_add, Nat.zero_mul] at p5 p6
    rw [hM.out] at p2
    have hb5 := below_al w4 (.cells #[.int .i64 wp, .int .i64 wv] 52)
    have HT5 : Hid (LnTo w 91 b (some ⟨gv, 0, none⟩) (some ⟨gw, 0, none⟩) { s with vs := r, tk := moreL s.tk } (w4.alloc (.cells #[.int .i64 wp, .int .i64 wv] 52)) a' c' (some ⟨gw, 0, none⟩) c2) := hd (HT4.out.bel hb5)
    have HX5 : Hid (Box2 (w4.alloc (.cells #[.int .i64 wp, .int .i64 wv] 52)) 52 G 0 0) := hd (HX4.out.bel hb5)
    have HY5 : Hid (Box2 (w4.alloc (.cells #[.int .i64 wp, .int .i64 wv] 52)) 52 w4.heap.size wp wv) := hd (box_new _ _ _ _)
    have hH : Hid (∀ k, fp b a' (some ⟨gw, 0, none⟩) k → k < w4.heap.size) := hd HT4.out.at'.lt
    have hGH : Hid (G < w4.heap.size) := hd HX4.out.lt
    have hcap2 := HT4.out.at'.wts.capLe
    have hcm2 : c2 ≤ 9223372036854775807 := by have := HT4.out.at'.wts.2.2.1; unfold maxLen at this; omega
    simp only at hcap2
    rw [hM.out] at hcap2
    have hMc : (M : Int) ≤ (c2 : Int) := by omega
    clear HT4 HX4 hb5
    go_upto_region 9 with fail
    obtain ⟨H, hHs⟩ : ∃ H, Hid (w4.heap.size = H) := ⟨_, rfl⟩
    obtain ⟨w5, hw5⟩ : ∃ W, Hid (w4.alloc (.cells #[.int .i64 wp, .int .i64 wv] 52) = W) := ⟨_, rfl⟩
    rw [hw5.out] at HT5 HX5 HY5 ⊢
    rw [hHs.out] at HY5 hH hGH ⊢
    clear hw5 p2 p5 p6 x0 x1 x2 x3
    -- those who wait, but for the first
    obtain ⟨k, hk⟩ : ∃ k, Hid (M - 1 = k) := ⟨_, rfl⟩
    have hrow := HT5.out.at'.wts
    simp only at hrow
    rw [HWS.out] at hrow
    rw [← HWS.out, hM.out] at hrow
    obtain ⟨a6, c6, w6, hap, R6, b6, B6⟩ := tail_w (v := (wp, wv)) (r := q) (by rw [HWS.out] at hrow; exact hrow) (by have := hwl.out; have := hM.out; omega) (by have := hwl.out; have := hM.out; omega)
    rw [hk.out] at hap R6
    have q2 := (HT5.out.at'.below (below_al w5 (.cells #[] 52))).cells.2.2.1
    simp only at q2
    rw [hM.out] at q2
    have h6 := HT5.out.bel b6
    have z1 := h6.at'.cells.2.2.1
    have z2 := h6.at'.free 2
    simp only at z1
    rw [hM.out] at z1
    have hHb : Hid (H ≠ b) := hd (fun e => by have := hH.out b (.inl rfl); omega)
    have HE7 : Hid (LnTo w 91 b (some ⟨gv, 0, none⟩) (some ⟨gw, 0, none⟩) { s with vs := r, tk := moreL s.tk, ws := q } (w6.setCell ⟨b, 2, none⟩ (.slice a6 k c6)) a' c' a6 c6 ∧ Box2 (w6.setCell ⟨b, 2, none⟩ (.slice a6 k c6)) 52 G 0 0 ∧ Box2 (w6.setCell ⟨b, 2, none⟩ (.slice a6 k c6)) 52 H wp wv) := hd (by
      refine ⟨HT5.out.putW (Mod.of_below _ b6) (ws := q) R6 ?_ (fun k hk => .inr (B6 k hk)), (HX5.out.bel b6).set hGb.out _ _, (HY5.out.bel b6).set hHb.out _ _⟩
      have h1 := hwl.out
      have h2 := hM.out
      have h3 := hk.out
      omega)
    have hgn7 : Hid (¬ fp b a' a6 G ∧ ¬ fp b a' a6 H) := hd (by
      have hHl := HY5.out.lt
      refine ⟨fun hk => ?_, fun hk => ?_⟩
      · rcases hk with hk | hk | hk
        · exact hGb.out hk
        · exact hgn4.out (.inr (.inl hk))
        · have := B6 G hk; have := hGH.out; omega
      · rcases hk with hk | hk | hk
        · exact hHb.out hk
        · have := hH.out H (.inr (.inl hk)); omega
        · have := B6 H hk; omega)
    clear HX5 HY5 HT5 h6 R6 hrow B6
    obtain ⟨A2, hA2⟩ : ∃ A, (if c2 = 1 then some ⟨gw, 0, none⟩ else some ⟨gw, 2, none⟩ : Option Addr) = A := ⟨_, rfl⟩
    rw [hA2] at hap
    have hap := hd hap
    have hk1 : M - 1 = k := hk.out
    go_upto_region 10 with (first | (at_builtin; refine wpList_append_run rfl _ _ _ rfl _ _ _ _ rfl rfl hap.out ?_; clear hap))
    obtain ⟨w7, hw7⟩ : ∃ W, Hid (w6.setCell ⟨b, 2, none⟩ (.slice a6 k c6) = W) := ⟨_, rfl⟩
    rw [hw7.out] at HE7 ⊢
    clear hw7 z1 z2 q2 hk1 hap hA2
    -- the one who is let in
    have p1 := HE7.out.1.at'.cells.2.1
    have y1 := HE7.out.2.2.c1
    simp only at p1
    have hrm : r.length = m := by have h1 := hvl.out; have h2 := hN.out; have h3 := hm.out; omega
    rw [hrm] at p1
    have hmb : m ≤ 64 := by have h3 := hm.out; omega
    have hbl' := HE7.out.1.at'.blt
    have hbl : b ≠ w7.heap.size := Nat.ne_of_lt hbl'
    have hHl : H ≠ w7.heap.size := Nat.ne_of_lt HE7.out.2.2.lt
    have HT8 : Hid (LnTo w 91 b (some ⟨gv, 0, none⟩) (some ⟨gw, 0, none⟩) { s with vs := r, tk := moreL s.tk, ws := q } w7.drew a' c' a6 c6) := hd (HE7.out.1.bel ((Below.refl _ w7).drew))
    have HX8 : Hid (Box2 w7.drew 52 G 0 0 ∧ Box2 w7.drew 52 H wp wv) := hd ⟨HE7.out.2.1.bel ((Below.refl _ w7).drew), HE7.out.2.2.bel ((Below.refl _ w7).drew)⟩
    clear HE7
    obtain ⟨a8, c8, w8, hap, R8, M8, B8⟩ := push_i (w := w7.drew) HT8.out.at'.vals (by simp only; omega) wv
    simp only at hap R8 M8 B8
    rw [hrm] at hap R8
    have hap : Hid (∀ ty, (Builtin.append_ #[26, 26] ty #[.slice a' m c', .slice (some ⟨w7.heap.size, 0, none⟩) 1 1]).run Try.prog (w7.alloc (.cells #[.int .i64 wv] 2)).drew = .ok (.slice a8 (m + 1) c8) w8) := hd hap
    obtain ⟨z1, z2⟩ := HT8.out.at'.stayV M8 1
    have HX9 : Hid (Box2 w8 52 G 0 0 ∧ Box2 w8 52 H wp wv) := hd ⟨HX8.out.1.mod M8 (fun e => hgn7.out.1 (.inr (.inl e))), HX8.out.2.mod M8 (fun e => hgn7.out.2 (.inr (.inl e)))⟩
    have z1 : w8.cell? ⟨b, 1, none⟩ = some (.slice a' m c') := z1.trans p1
    have HT9 : Hid (LnTo w 91 b (some ⟨gv, 0, none⟩) (some ⟨gw, 0, none⟩) { s with vs := r ++ [wv], tk := moreL s.tk, ws := q } (w8.setCell ⟨b, 1, none⟩ (.slice a8 (m + 1) c8)) a8 c8 a6 c6) := hd
      (HT8.out.putV M8 (vs := r ++ [wv]) (by rw [iC_app]; exact R8) (by simp [hrm]) B8)
    have HX10 : Hid (Box2 (w8.setCell ⟨b, 1, none⟩ (.slice a8 (m + 1) c8)) 52 G 0 0 ∧ Box2 (w8.setCell ⟨b, 1, none⟩ (.slice a8 (m + 1) c8)) 52 H wp wv) := hd ⟨HX9.out.1.set hGb.out _ _, HX9.out.2.set hHb.out _ _⟩
    have hgn9 : Hid (¬ fp b a8 a6 G) := hd (fun hk => by
      rcases hk with hk | hk | hk
      · exact hgn7.out.1 (.inl hk)
      · rcases B8 G hk with h | h
        · exact hgn7.out.1 (.inr (.inl h))
        · have := HX8.out.1.lt
          omega
      · exact hgn7.out.1 (.inr (.inr hk)))
    clear HT8 HX8 HX9 R8 M8 B8
    have y1' : (w7.alloc (.cells #[.int .i64 wv] 2)).cell? ⟨b, 1, none⟩ = some (.slice a' m c') := ((below_al w7 _).cell (p := ⟨b, 1, none⟩) hbl').trans p1
    go_region_law ((refine step_append_run (by rfl) _ _ _ (by rfl) _ _ _ _ (by rfl) (by rfl) hap.out ?_))
    all_goals
      obtain ⟨w9, hw9⟩ : ∃ W, Hid (w8.setCell ⟨b, 1, none⟩ (.slice a8 (m + 1) c8) = W) := ⟨_, rfl⟩
      rw [hw9.out] at HT9 HX10 ⊢
      have HFI : Hid (Q (.returned (tkV (v, (wp, wv), true, 0))) ((w9.setCell ⟨G, 0, none⟩ (.int .i64 wp)).setCell ⟨G, 1, none⟩ (.int .i64 wv)).drew) := hd (by
        rw [← hQ.out]
        have e1 : takeL s = ((v, (wp, wv), true, 0), { s with vs := r ++ [wv], tk := moreL s.tk, ws := q }) := by unfold takeL; rw [HS.out, HWS.out]
        rw [e1]
        exact ⟨rfl, (((HT9.out.other hgn9.out (by have := hG.out; omega) 0 _).other hgn9.out (by have := hG.out; omega) 1 _).bel ((Below.refl _ _).drew)).out HF.out⟩)
      have u0 := HX10.out.2.c0
      have u1 := HX10.out.2.c1
      have u6 := HX10.out.1.c0
      have u7 := HX10.out.1.c1
      have u2 := HX10.out.1.fr 0
      have u3 := HX10.out.1.fr 1
      have u4 := (HX10.out.1.put wp wv).c0
      have u5 := (HX10.out.1.put wp wv).c1
      clear HT9 HX10 hap z1 z2 y1' p1 y1 hw9
      go_wp2_with fail
      go_region
      go_wp2_with fail
      refine bodyPost_ret (v := tkV (v, (wp, wv), true, 0)) (by simp [results, Try.results53, go_sem, tkV, u4, u5]) rfl HFI.out

theorem rtake_any {b : Nat} {F : Nat → Prop} {s : LS} {w : World} (h : Ln w 91 b F s) (hg : Good s) (hn : s.ws.length ≤ 8000000000000) :
    Calls Try.prog 53 #[.pointer (some ⟨b, 0, none⟩)] w fun e w' => e = .returned (tkV (takeL s).1) ∧ LnOut w 91 b F (takeL s).2 w' := by
  rcases hs : s.vs with _ | ⟨v, r⟩
  · have e1 : takeL s = ((0, (0, 0), false, 21), s) := by unfold takeL; rw [hs]
    rw [e1]
    exact rtake_none h hs
  · exact rtake_some h hg hs hn
end Go.Proofs.Ytknklbojcnhjcaa
