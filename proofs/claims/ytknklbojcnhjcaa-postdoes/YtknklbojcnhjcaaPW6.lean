/- Take. -/
import Derived.Test.YtknklbojcnhjcaaPW5
namespace Go.Proofs.Ytknklbojcnhjcaa
open Go.RowKit Go.Shelf
attribute [local go_sem] Oper.semAt_some

def ptkV (t : Int × Int × (Int × Int) × Bool × Int) : Value := .tuple #[.int .i64 t.1, .int .i64 t.2.1, .agg #[.int .i64 t.2.2.1.1, .int .i64 t.2.2.1.2], .bool t.2.2.2.1, .int .i64 t.2.2.2.2]

set_option maxRecDepth 100000 in
set_option maxHeartbeats 4000000 in
theorem ptake_any {b : Nat} {F : Nat → Prop} {ss : List LS} {cur : Nat} {w : World} (h : Ps w 59 89 60 b F ss cur) (hg : GoodP ss cur) (hn : ∀ s ∈ ss, s.ws.length ≤ 8000000000000) :
    Calls Try.prog 18 #[.pointer (some ⟨b, 0, none⟩)] w fun e w' => e = .returned (ptkV (takeP ss cur).1) ∧ PsOut w 59 89 60 b F (takeP ss cur).2.1 (takeP ss cur).2.2 w' := by
  obtain ⟨Q, hQ⟩ : ∃ Q : Ending → World → Prop, Hid ((fun e w' => e = .returned (ptkV (takeP ss cur).1) ∧ PsOut w 59 89 60 b F (takeP ss cur).2.1 (takeP ss cur).2.2 w') = Q) := ⟨_, rfl⟩
  rw [hQ.out]
  have HPS := hd h
  obtain ⟨a, cap, bs, Fs, h, hF, -⟩ := h
  have HP := hd h
  have hbl := h.blt
  have T0 := hd (tk_new w b)
  clear h
  refine (callsIn_wide (n := 3)).1 ?_
  refine callsIn_of_wp_marks Try.func18 rfl trivial ?_ rfl
  simp only [Try.ntmps18, List.size_toArray, List.length_cons, List.length_nil, Nat.reduceAdd, Nat.reduceSub, Array.replicate_succ, Array.replicate_zero, List.push_toArray, List.append_toArray, List.nil_append, List.cons_append]
  refine wpIn_wide.2 ?_
  go_wp2_with fail
  have HB6 : Hid (Below w.heap.size w ((((((w.alloc (.cells #[.pointer (some ⟨b, 0, none⟩)] 31)).alloc (.cells #[.int .i64 0] 2)).alloc (.cells #[.int .i64 0] 3)).alloc (.cells #[.int .i64 0, .int .i64 0] 52)).alloc (.cells #[.bool false] 4)).alloc (.cells #[.int .i64 0] 32)) ∧ ((((((w.alloc (.cells #[.pointer (some ⟨b, 0, none⟩)] 31)).alloc (.cells #[.int .i64 0] 2)).alloc (.cells #[.int .i64 0] 3)).alloc (.cells #[.int .i64 0, .int .i64 0] 52)).alloc (.cells #[.bool false] 4)).alloc (.cells #[.int .i64 0] 32)).heap.size = w.heap.size + 6) :=
    hd ⟨((((((Below.refl _ w).alloc (Nat.le_refl _) _).alloc (by simp) _).alloc (by simp; omega) _).alloc (by simp; omega) _).alloc (by simp; omega) _).alloc (by simp; omega) _, by simp⟩
  obtain ⟨w6, hw6⟩ : ∃ W, Hid ((((((w.alloc (.cells #[.pointer (some ⟨b, 0, none⟩)] 31)).alloc (.cells #[.int .i64 0] 2)).alloc (.cells #[.int .i64 0] 3)).alloc (.cells #[.int .i64 0, .int .i64 0] 52)).alloc (.cells #[.bool false] 4)).alloc (.cells #[.int .i64 0] 32) = W) := ⟨_, rfl⟩
  rw [hw6.out] at HB6 T0 ⊢
  clear hw6
  have T1 := hd (T0.out.putE 21)
  obtain ⟨f0, f1, f2, f3, f4, f5, f6⟩ := T0.out.free
  obtain ⟨c0, c1, c2, c3, c4, c5, c6⟩ := T0.out.cells
  go_step3
  go_wp2_with fail
  go_step3
  have HB7 : Hid (Below w.heap.size w (w6.setCell ⟨w.heap.size + 1 + 1 + 1 + 1 + 1, 0, none⟩ (.int .i64 21)) ∧ (w6.setCell ⟨w.heap.size + 1 + 1 + 1 + 1 + 1, 0, none⟩ (.int .i64 21)).heap.size = w.heap.size + 6) :=
    hd ⟨HB6.out.1.setCell (p := ⟨w.heap.size + 1 + 1 + 1 + 1 + 1, 0, none⟩) (by dsimp only; omega) _, by have := HB6.out.2; simpa [World.setCell] using this⟩
  obtain ⟨w7, hw7⟩ : ∃ W, Hid (w6.setCell ⟨w.heap.size + 1 + 1 + 1 + 1 + 1, 0, none⟩ (.int .i64 21) = W) := ⟨_, rfl⟩
  rw [hw7.out] at HB7 T1 ⊢
  clear hw7 T0 HB6 f0 f1 f2 f3 f4 f5 f6 c0 c1 c2 c3 c4 c5 c6
  have c0 := T1.out.cells.1
  have hro := round_any (b := b) (w := w7)
  go_wp2_with (first | (go_at_call 39; refine hro.mono ?_; rintro e1 w1 ⟨rfl, rfl⟩))
  have HB8 : Hid (Below w.heap.size w (w7.alloc (.cells #[.pointer (some ⟨b, 0, none⟩)] 31)) ∧ (w7.alloc (.cells #[.pointer (some ⟨b, 0, none⟩)] 31)).heap.size = w.heap.size + 7 ∧ (w7.alloc (.cells #[.pointer (some ⟨b, 0, none⟩)] 31)).heap[w7.heap.size]? = some (.cells #[.pointer (some ⟨b, 0, none⟩)] 31 (0, 0)) ∧ TkBox (w7.alloc (.cells #[.pointer (some ⟨b, 0, none⟩)] 31)) w.heap.size b 0 0 (0, 0) false 21) :=
    hd ⟨HB7.out.1.alloc HB7.out.1.size _, by rw [World.size_alloc, HB7.out.2], heap_alloc_new _ _, T1.out.kept (fun k _ hk => Below.heap_alloc _ _ _ (by rw [HB7.out.2]; omega))⟩
  obtain ⟨W0, hW0⟩ : ∃ W, Hid (w7.alloc (.cells #[.pointer (some ⟨b, 0, none⟩)] 31) = W) := ⟨_, rfl⟩
  rw [hW0.out] at HB8 ⊢
  rw [HB7.out.2] at HB8 ⊢
  clear hW0 HB7 T1 c0 hro
  have HN : Hid (0 < ss.length) := hd hg.n1
  obtain ⟨g, hga, -⟩ := HP.out.ptr 0 HN.out
  subst hga
  have HA := hd (HP.out.below (HB8.out.1))
  refine (wpIn_wide (n := 3)).1 ?_
  refine wpIn_rangeFunc_ownG rfl (by omega) (gf := 62) (lb := #[.pointer (some ⟨w.heap.size + 6, 0, none⟩)]) rfl trivial (enters_of Try.func62 (by kernel_rfl) rfl)
    (round1_stops (n := ss.length) (cur := cur) (n₀ := W0.heap.size) (Bp := w.heap.size + 6) (b := b) (g := g) (cap := cap) (bs := bs) (w := W0) 2 (by omega) HN.out hg.n2 hg.cu (by rw [cell_of_row _ _ _ _ _ _ HB8.out.2.2.1]; rfl) (by rw [HB8.out.2.1]; omega) HA.out.cells.1 HA.out.cells.2 (by rw [HB8.out.2.1]; omega)
      (fun i hi => by obtain ⟨g', e, hc⟩ := HA.out.ptr i hi; cases e; exact hc) (HA.out.row.lt g rfl) (Nat.le_refl _))
    belowK_t (belowK_b (Nat.le_refl _)) (Below.refl _ _) (fun _ => rfl)
    (fun pre W => (∀ y ∈ pre, (lnOf ss y.1).vs = []) ∧ Below W0.heap.size W0 W)
    (fun c pre W => c = .exit 0 ∧ ∃ q x, pre = q ++ [x] ∧ (∀ y ∈ q, (lnOf ss y.1).vs = []) ∧ (lnOf ss x.1).vs ≠ [] ∧ Took w ss b (some ⟨g, 0, none⟩) cap bs Fs W0.heap.size x.1 W)
    (OwnFrom.and (fun _ _ _ _ h _ _ => h) (ownFrom_below (Nat.le_refl _) (Nat.le_refl _)))
    (fun c s A B row hs hg' hr => by
      obtain ⟨h1, q, x, h2, h3, h4, h5⟩ := hs
      exact ⟨h1, q, x, h2, h3, h4, h5.turn (by rw [HB8.out.2.1]; omega) (mod_grown hg') hr⟩)
    ⟨by simp, Below.refl _ _⟩
    (fun x => { tmps := #[.pointer (some ⟨b, 0, none⟩), .pointer (some ⟨w.heap.size, 0, none⟩), .pointer (some ⟨w.heap.size + 1, 0, none⟩), .pointer (some ⟨w.heap.size + 1 + 1, 0, none⟩), .pointer (some ⟨w.heap.size + 1 + 1 + 1, 0, none⟩), .pointer (some ⟨w.heap.size + 1 + 1 + 1 + 1, 0, none⟩), .pointer (some ⟨w.heap.size + 1 + 1 + 1 + 1 + 1, 0, none⟩), .int .i64 (x.1 : Int), .pointer (some ⟨bAt bs x.1, 0, none⟩), .pointer (some ⟨b, 0, none⟩), .func (.func 62) #[] #[.pointer (some ⟨w.heap.size + 6, 0, none⟩)], .int .i64 (x.1 : Int), .pointer (some ⟨bAt bs x.1, 0, none⟩), undef, undef, undef, undef, undef, undef, undef, undef, undef, undef, undef, undef, undef, undef, undef, undef, undef, undef, undef, undef, undef, undef], defers := [] }) ?assign ?body ?done ?stop
  case assign =>
    intro l x W K hK
    simp only [enc]
    gi_wp2
    exact hK
  case body =>
    rintro l pre x W ⟨hpre, hBW⟩ _
    obtain ⟨i, hi⟩ := x
    have HPW := hd (HA.out.below hBW)
    have HTW : Hid (TkBox W w.heap.size b 0 0 (0, 0) false 21) := hd (HB8.out.2.2.2.kept (fun k _ hk => hBW.block k (by rw [HB8.out.2.1]; omega)))
    have hlen := len_any (HPW.out.lns i hi)
    have hlen : Calls Try.prog 40 #[.pointer (some ⟨bAt bs i, 0, none⟩)] W fun e w' => e = .returned (.int .i64 (lnOf ss i).vs.length) ∧ w' = W := hlen
    by_cases hv : (lnOf ss i).vs = []
    · rw [hv] at hlen
      simp only [List.length_nil] at hlen
      gi_wp2_with (refine ⟨trivial, ?_⟩; gi_at_call 40; refine (CallsIn.inRound l (callsIn_wide.2 hlen)).mono ?_; rintro e W ⟨rfl, rfl⟩)
      exact ⟨KeepsFrom.refl _ _, Below.refl _ _, fun y hy => by
        rcases List.mem_append.1 hy with h | h
        · exact hpre y h
        · simp at h; rw [h]; exact hv, hBW⟩
    · have hl0 : 0 < (lnOf ss i).vs.length := List.length_pos_iff.2 hv
      obtain ⟨n, hnn⟩ : ∃ n, Hid ((lnOf ss i).vs.length = n) := ⟨_, rfl⟩
      have hn0 : ((n : Int) == 0) = false := by have := hnn.out; simp; omega
      rw [hnn.out] at hlen
      have htk := take_any (HPW.out.lns i hi) (hg.at hi) (hn _ (lnOf_mem hi))
      have htk : Calls Try.prog 41 #[.pointer (some ⟨bAt bs i, 0, none⟩)] W fun e w' => e = .returned (tkV (takeL (lnOf ss i)).1) ∧ LnOut W 89 (bs.getD i 0) (Fs i) (takeL (lnOf ss i)).2 w' := htk
      obtain ⟨r, hr⟩ : ∃ r, Hid (takeL (lnOf ss i) = r) := ⟨_, rfl⟩
      rw [hr.out] at htk
      unfold tkV at htk
      clear hl0
      gi_wp2_with (first
        | (refine ⟨trivial, ?_⟩; gi_at_call 40; refine (CallsIn.inRound l (callsIn_wide.2 hlen)).mono ?_; rintro e W ⟨rfl, rfl⟩)
        | (refine ⟨trivial, ?_⟩; gi_at_call 41; refine (CallsIn.inRound l (callsIn_wide.2 htk)).mono ?_; rintro e w2 ⟨rfl, ho⟩
           have HO := hd ho.cells
           have HT2 : Hid (TkBox w2 w.heap.size b 0 0 (0, 0) false 21) := hd (HTW.out.kept (fun k hk1 hk2 => ho.1.block k (by have := hBW.size; have := HB8.out.2.1; omega) (fun hF' => by have := (HP.out.lns i hi).lt k hF'; omega)))
           clear ho
           obtain ⟨f0, f1, f2, f3, f4, f5, f6⟩ := HT2.out.free
           obtain ⟨c0, c1, c2, c3, c4, c5, c6⟩ := HT2.out.cells))
      have HT3 := hd (HT2.out.put r.1.1 r.1.2.1 r.1.2.2.1 r.1.2.2.2)
      have HP3 : Hid (TPs w (ss.set i r.2) cur b (some ⟨g, 0, none⟩) cap bs Fs W0.heap.size (((((w2.setCell ⟨w.heap.size + 1, 0, none⟩ (.int .i64 r.1.1)).setCell ⟨w.heap.size + 1 + 1 + 1, 0, none⟩ (.int .i64 r.1.2.1.1)).setCell ⟨w.heap.size + 1 + 1 + 1, 1, none⟩ (.int .i64 r.1.2.1.2)).setCell ⟨w.heap.size + 1 + 1 + 1 + 1, 0, none⟩ (.bool r.1.2.2.1)).setCell ⟨w.heap.size + 1 + 1 + 1 + 1 + 1, 0, none⟩ (.int .i64 r.1.2.2.2))) := hd (by
        obtain ⟨hm, F', hL, hF', hc⟩ := HO.out
        have hs := HB8.out.2.1
        exact ((((TPs.took HP.out (HB8.out.1.trans (hBW.mono (by omega))) hBW.size hi hm hL hF' hc).store (by omega) (by omega) _ _).store (by omega) (by omega) _ _).store (by omega) (by omega) _ _).store (by omega) (by omega) _ _ |>.store (by omega) (by omega) _ _)
      have HKF : Hid (KeepsFrom W0.heap.size W (((((w2.setCell ⟨w.heap.size + 1, 0, none⟩ (.int .i64 r.1.1)).setCell ⟨w.heap.size + 1 + 1 + 1, 0, none⟩ (.int .i64 r.1.2.1.1)).setCell ⟨w.heap.size + 1 + 1 + 1, 1, none⟩ (.int .i64 r.1.2.1.2)).setCell ⟨w.heap.size + 1 + 1 + 1 + 1, 0, none⟩ (.bool r.1.2.2.1)).setCell ⟨w.heap.size + 1 + 1 + 1 + 1 + 1, 0, none⟩ (.int .i64 r.1.2.2.2))) := hd (by
        have hs := HB8.out.2.1
        exact (keepsFrom_mod HO.out.1 (fun k hk => by have := (HP.out.lns i hi).lt k hk; omega)).trans ((((((KeepsOthers.setCell _ _ _).trans (KeepsOthers.setCell _ _ _)).trans (KeepsOthers.setCell _ _ _)).trans (KeepsOthers.setCell _ _ _)).trans (KeepsOthers.setCell _ _ _)).from _))
      obtain ⟨w3, hw3⟩ : ∃ W, Hid (((((w2.setCell ⟨w.heap.size + 1, 0, none⟩ (.int .i64 r.1.1)).setCell ⟨w.heap.size + 1 + 1 + 1, 0, none⟩ (.int .i64 r.1.2.1.1)).setCell ⟨w.heap.size + 1 + 1 + 1, 1, none⟩ (.int .i64 r.1.2.1.2)).setCell ⟨w.heap.size + 1 + 1 + 1 + 1, 0, none⟩ (.bool r.1.2.2.1)).setCell ⟨w.heap.size + 1 + 1 + 1 + 1 + 1, 0, none⟩ (.int .i64 r.1.2.2.2) = W) := ⟨_, rfl⟩
      rw [hw3.out] at HT3 HP3 HKF ⊢
      clear hw3 HT2 HTW f0 f1 f2 f3 f4 f5 f6 c0 c1 c2 c3 c4 c5 c6 hlen htk
      have c0 := HT3.out.cells.1
      have c2 := HT3.out.cells.2.2.1
      have f2 := HT3.out.free.2.2.1
      obtain ⟨q0, q1, q2⟩ := HP3.out.cells
      rw [List.length_set] at q0
      obtain ⟨nn, hnn2⟩ : ∃ n, Hid (ss.length = n) := ⟨_, rfl⟩
      obtain ⟨i2, hi2⟩ : ∃ i2, Hid ((i + 1) % ss.length = i2) := ⟨_, rfl⟩
      have hbe : ∀ W' : World, W'.cell? ⟨b, 0, none⟩ = some (.slice (some ⟨g, 0, none⟩) nn cap) → Calls Try.prog 42 #[.pointer (some ⟨b, 0, none⟩), .int .i64 (i : Int)] W' fun e w' => e = .returned (.int .i64 (i2 : Int)) ∧ w' = W' := fun W' hq => behind_any hq (by rw [← hnn2.out]; exact hi) (by rw [← hnn2.out]; exact hg.n2) (by rw [← hi2.out, hnn2.out])
      rw [hnn2.out] at q0
      have hso : ∀ (W : World) (k : Nat) (u : Value) (j : Nat), (W.setCell ⟨w.heap.size + 1 + 1, k, none⟩ u).cell? ⟨b, j, none⟩ = W.cell? ⟨b, j, none⟩ := fun W k u j => World.cell?_of_block (Below.heap_setCell _ _ _ _ (by dsimp only; omega))
      have HFIN : Hid (KeepsFrom W0.heap.size W ((w3.setCell ⟨w.heap.size + 1 + 1, 0, none⟩ (.int .i64 (i : Int))).setCell ⟨b, 1, none⟩ (.int .i64 (i2 : Int))).drew ∧ (∃ q x, pre ++ [(⟨i, hi⟩ : LNo ss.length)] = q ++ [x] ∧ (∀ y ∈ q, (lnOf ss y.1).vs = []) ∧ (lnOf ss x.1).vs ≠ [] ∧ Took w ss b (some ⟨g, 0, none⟩) cap bs Fs W0.heap.size x.1 ((w3.setCell ⟨w.heap.size + 1 + 1, 0, none⟩ (.int .i64 (i : Int))).setCell ⟨b, 1, none⟩ (.int .i64 (i2 : Int))).drew)) := hd (by
        have hs := HB8.out.2.1
        refine ⟨HKF.out.trans (((KeepsOthers.setCell _ _ _).trans (KeepsOthers.setCell _ _ _)).trans (KeepsOthers.drew _) |>.from _), pre, ⟨i, hi⟩, rfl, hpre, hv, ?_, ?_⟩
        · rw [hr.out]
          exact (HT3.out.putLn (i : Int)).kept (fun k hk1 hk2 => at_set (w := w3.setCell ⟨w.heap.size + 1 + 1, 0, none⟩ (.int .i64 (i : Int))) rfl (by dsimp only; omega))
        · rw [hr.out, hi2.out]
          exact (((HP3.out.store (by omega) (by omega) _ _).setCur (by omega) i2).drew))
      have hmx : Try.prog.follows .mixedOrders = true := by kernel_rfl
      gi_region_with_o (refine ⟨trivial, ?_⟩; gi_at_call 42; refine (CallsIn.inRound l (callsIn_wide.2 (hbe _ (by simpa using q0)))).mono ?_; rintro e w3 ⟨rfl, rfl⟩)
      all_goals gi_wp2
      all_goals exact ⟨HFIN.out.1, rfl, HFIN.out.2⟩
  case done =>
    rintro D xs W hD rfl ⟨hall, hBW⟩ hK
    have HT9 : Hid (TkBox W w.heap.size b 0 0 (0, 0) false 21) := hd (HB8.out.2.2.2.kept (fun k _ hk => hBW.block k (by rw [HB8.out.2.1]; omega)))
    obtain ⟨f0, f1, f2, f3, f4, f5, f6⟩ := HT9.out.free
    obtain ⟨c0, c1, c2, c3, c4, c5, c6⟩ := HT9.out.cells
    obtain ⟨s1, s2, s3, s4, s5, s6⟩ := HT9.out.idle
    go_wp2_with fail
    go_region_held3 (fun w' => w'.cell? ⟨w.heap.size + 1, 0, none⟩ = some (.int .i64 0) ∧ w'.cell? ⟨w.heap.size + 1 + 1, 0, none⟩ = some (.int .i64 0) ∧ w'.cell? ⟨w.heap.size + 1 + 1 + 1, 0, none⟩ = some (.int .i64 0) ∧ w'.cell? ⟨w.heap.size + 1 + 1 + 1, 1, none⟩ = some (.int .i64 0) ∧ w'.cell? ⟨w.heap.size + 1 + 1 + 1 + 1, 0, none⟩ = some (.bool false) ∧ w'.cell? ⟨w.heap.size + 1 + 1 + 1 + 1 + 1, 0, none⟩ = some (.int .i64 21)) (go_keep) (fail)
    go_wp2_with fail
    rw [Exit.noGoto_ret]
    refine ⟨by simp, .inl ⟨_, _, rfl, run_takeDeferred (w := W.drew) hK, ?_⟩⟩
    have HB9 : Hid (Below w.heap.size w (W.drew.putObj D (.deferred none))) := hd ((HB8.out.1.trans (hBW.mono HB8.out.1.size)).drew.trans (belowK_b (w := w) (Nat.le_refl _) W.drew D _ _ (by have := HB8.out.1.size; omega) hK rfl rfl))
    have HT10 : Hid (TkBox (W.drew.putObj D (.deferred none)) w.heap.size b 0 0 (0, 0) false 21) := hd (HT9.out.kept (fun k _ hk => World.putObj_heap_other (by have := HB8.out.2.1; omega)))
    obtain ⟨-, c1, c2, c3, c4, c5, c6⟩ := HT10.out.cells
    refine ⟨ptkV (0, 0, (0, 0), false, 21), ?_, ?_⟩
    · simp [results, Try.results18, go_sem, ptkV, c1, c2, c3, c4, c5, c6]
    · rw [← hQ.out, takeP_none (fun j hj => hall ⟨rnd ss.length cur j, rnd_lt HN.out⟩ (List.mem_map.2 ⟨j, by simpa using hj, rfl⟩))]
      exact ⟨rfl, PsOut.same HPS.out HB9.out⟩
  case stop =>
    rintro D c pre W hD ⟨k, hk, rfl⟩ ⟨rfl, q, x, hqx, hq, hne, hT⟩ hK
    rw [ups_succ] at hqx
    obtain ⟨rfl, hx⟩ := List.append_inj' hqx rfl
    obtain rfl : (⟨rnd ss.length cur k, rnd_lt HN.out⟩ : LNo ss.length) = x := by simpa using hx
    have HTK : Hid (takeP ss cur = _) := hd (takeP_some (i := rnd ss.length cur k) rfl hk hne (fun j hj => hq ⟨rnd ss.length cur j, rnd_lt HN.out⟩ (List.mem_map.2 ⟨j, by simpa using hj, rfl⟩)))
    obtain ⟨i, hi⟩ : ∃ i, Hid (rnd ss.length cur k = i) := ⟨_, rfl⟩
    simp only at hT
    rw [hi.out] at HTK hT
    clear hqx hx hq hne
    have HT := hd hT
    obtain ⟨r, hr⟩ : ∃ r, Hid (takeL (lnOf ss i) = r) := ⟨_, rfl⟩
    have HT9 := hd hT.box
    rw [hr.out] at HT9
    clear hT
    obtain ⟨f0, f1, f2, f3, f4, f5, f6⟩ := HT9.out.free
    obtain ⟨c0, c1, c2, c3, c4, c5, c6⟩ := HT9.out.cells
    obtain ⟨s1, s2, s3, s4, s5, s6⟩ := HT9.out.idle
    refine wpIn_wide.2 ?_
    go_wp2_with fail
    go_region_held3 (fun w' => w'.cell? ⟨w.heap.size + 1, 0, none⟩ = some (.int .i64 r.1.1) ∧ w'.cell? ⟨w.heap.size + 1 + 1, 0, none⟩ = some (.int .i64 (i : Int)) ∧ w'.cell? ⟨w.heap.size + 1 + 1 + 1, 0, none⟩ = some (.int .i64 r.1.2.1.1) ∧ w'.cell? ⟨w.heap.size + 1 + 1 + 1, 1, none⟩ = some (.int .i64 r.1.2.1.2) ∧ w'.cell? ⟨w.heap.size + 1 + 1 + 1 + 1, 0, none⟩ = some (.bool r.1.2.2.1) ∧ w'.cell? ⟨w.heap.size + 1 + 1 + 1 + 1 + 1, 0, none⟩ = some (.int .i64 r.1.2.2.2)) (go_keep) (fail)
    go_wp2_with fail
    rw [Exit.noGoto_ret]
    refine ⟨by simp, .inl ⟨_, _, rfl, run_takeDeferred (w := W.drew) hK, ?_⟩⟩
    have HT10 := hd ((Took.mk (W := W.drew) (HT.out.box.kept (fun _ _ _ => rfl)) HT.out.ps.drew).turn (by have := HB8.out.2.1; omega) (mod_grown (grownBy_putObj' W.drew D (.deferred none))) (fun r e => by cases e; exact ⟨hD, _, hK, rfl⟩))
    have HT11 := hd HT10.out.box
    rw [hr.out] at HT11
    obtain ⟨-, c1, c2, c3, c4, c5, c6⟩ := HT11.out.cells
    refine ⟨ptkV (r.1.1, (i : Int), r.1.2.1, r.1.2.2.1, r.1.2.2.2), ?_, ?_⟩
    · simp [results, Try.results18, go_sem, ptkV, c1, c2, c3, c4, c5, c6]
    · rw [← hQ.out, HTK.out]
      have h1 := HT10.out.ps
      rw [hr.out] at h1 ⊢
      obtain ⟨Fs', h2, -⟩ := h1
      exact ⟨rfl, h2.out (by rw [List.length_set]; exact hF)⟩
end Go.Proofs.Ytknklbojcnhjcaa
