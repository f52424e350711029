/- A step: Holds, End. -/
import Derived.Test.YtdihbbpndijdoaaKS3
namespace Go.Proofs.Ytdihbbpndijdoaa
open Go.RowKit Go.Maps

set_option maxRecDepth 100000 in
set_option maxHeartbeats 4000000 in
theorem step_holds {w wr : World} {b1 b2 : Nat} {os : List Int} {qs : Qs} (h : Two w wr b1 b2 os qs) (lock p : Int) :
    Calls Try.prog 23 #[.pointer (some ⟨b1, 0, none⟩), .pointer (some ⟨b2, 0, none⟩), .agg #[.int .i64 4, .int .i64 lock, .int .i64 p]] wr fun e w' => e = .returned (.bool true) ∧ StepOut w b1 b2 qs w' := by
  obtain ⟨w0, hw0⟩ : ∃ W, Hid (wr.alloc (.cells #[.int .i64 4, .int .i64 lock, .int .i64 p] 41) = W) := ⟨_, rfl⟩
  have hb0 : Below wr.heap.size wr w0 := by rw [← hw0.out]; exact below_al wr _
  obtain ⟨x0, x1, x2⟩ := box_cells wr 4 lock p
  rw [hw0.out] at x0 x1 x2
  obtain ⟨G, hG⟩ : ∃ G, Hid (wr.heap.size = G) := ⟨_, rfl⟩
  have hGl : wr.heap.size < w0.heap.size := by rw [← hw0.out]; simp
  have HE : Hid (∀ W, Below w0.heap.size w0 W → StepOut w b1 b2 qs W) := hd (fun W hb => ⟨os, qs, (h.below hb0).below hb, Nat.le_succ _⟩)
  have hG8 := h.good
  obtain ⟨F1, F2, h1, h2, h3, h4, h5⟩ := h
  obtain ⟨hG', m, ao, co, aq, cq, es, hL, hq, hF, -⟩ := h1.below hb0
  have hho := holds_any hL.lb hG8.le (fun i => (hG8.oFit i).1) p
  obtain ⟨r1, r2, ao2, co2, aq2, cq2, es2, hL2, -, -, -⟩ := h2.below hb0
  have HRH : Hid (∀ W, Below w0.heap.size w0 W → W.cell? ⟨G, 2, none⟩ = some (.int .i64 p) ∧ Calls Try.prog 35 #[.pointer (some ⟨b2, 0, none⟩), .int .i64 p] W fun e w' => ∃ a n c, e = .returned (.slice a n c) ∧ OwnI W (hold os p) w' a n c) := hd (fun W hb => by
    rw [← hG.out]
    exact ⟨(hb.cell (p := ⟨wr.heap.size, 2, none⟩) hGl).trans x2, rholds_any (hL2.below hb) r2 p⟩)
  have HLE : Hid ((hold os p).length ≤ 8) := hd (Nat.le_trans (holdTo_len _ _ _) hG8.le)
  have hGG := hG
  rw [hG.out] at x0 x1 x2
  clear h1 h2 h3 h4 h5 hb0 hL hq hF hG' hL2 hGl hG8
  go_enter Try.func23, Try.ntmps23
  go_upto_region 1 with fail
  rw [hw0.out, hGG.out]
  clear hw0 hGG hG
  go_upto_region 28 with (first
    | (go_at_call 16; refine hho.mono ?_; rintro e1 w1 ⟨a, n, c, rfl, ho1⟩))
  obtain ⟨y2, hrh⟩ := HRH.out w1 ho1.2.2.1
  have HO1 := hd ho1
  clear hho ho1 HRH x0 x1 x2
  go_upto_region 29 with (first
    | (go_at_call 35; refine hrh.mono ?_; rintro e2 w2 ⟨a', n', c', rfl, ho2⟩
       have hnn : n' = n := by rw [← ho2.1, HO1.out.1]
       subst hnn
       have hin := ints_b (c1 := c) (c2 := c') (HO1.out.2.1.below ho2.2.2.1).rd ho2.2.1.rd (hd ho2.1) (by rw [← ho2.1]; exact Nat.le_trans HLE.out (by omega)))
    | (go_at_call 25; refine hin.mono ?_; rintro e3 w3 ⟨rfl, b3⟩))
  have hn8 : n' ≤ 8 := by rw [← ho2.1]; exact HLE.out
  have hB3 : Below w0.heap.size w0 w3 := by
    have b1 := HO1.out.2.2.1
    have b2 := b1.trans (ho2.2.2.1.mono b1.size)
    exact b2.trans (b3.mono b2.size)
  have HOB : Hid (∀ k, blk a = some k → w0.heap.size ≤ k) := hd HO1.out.2.2.2
  have HS : Hid (Below w0.heap.size w0 w3 ∧ ∃ lo, Row w3 3 1 a n' c (iC lo)) := hd ⟨hB3, _, (HO1.out.2.1.below ho2.2.2.1).below b3⟩
  clear hrh ho2 b3 hB3 HO1 hin y2 HLE
  go_wp2_with fail
  go_loopg [21, 154, 155, 156, 157, 158, 159, 160, 161, 162] n' (fun k v21 v154 v155 v156 v157 v158 v159 v160 v161 v162 wr => ∃ i : Nat, i + k = n' ∧ v21 = .int .i64 (i : Int) ∧ Hid (Below w0.heap.size w0 wr ∧ ∃ lo, Row wr 3 1 a n' c (iC lo)))
  case atStart => exact ⟨0, by omega, by go_num, HS⟩
  case round =>
    obtain ⟨i, hik, rfl, HX⟩ := hrel
    clear HS
    obtain ⟨hM, lo, hR⟩ := HX.out
    by_cases h0 : gk = 0
    · subst h0
      have hi : i = n' := by omega
      subst hi
      have HS4 : Hid (Below w0.heap.size w0 wr ∧ ∃ lo, Row wr 3 1 a (i + 0) c (iC lo) ∧ ∀ k, blk a = some k → w0.heap.size ≤ k) := hd ⟨hM, lo, hR, HOB.out⟩
      clear HX hM hR hik HOB
      go_wp2_with fail
      go_loopg [19, 22, 163, 164, 165, 166, 167, 168, 169] 9 (fun k v19 v22 v163 v164 v165 v166 v167 v168 v169 wr => ∃ (m c : Nat) (a : Option Addr), m + k = 9 ∧ v22 = .int .i64 (m : Int) ∧ v19 = .slice a (i + m) c ∧ Hid (Below w0.heap.size w0 wr ∧ ∃ lo, Row wr 3 1 a (i + m) c (iC lo) ∧ ∀ k, blk a = some k → w0.heap.size ≤ k))
      case atStart => exact ⟨0, c, a, by omega, by go_num, rfl, HS4⟩
      case round =>
        obtain ⟨m, c, a, hmk, rfl, rfl, HX⟩ := hrel
        clear HS4
        obtain ⟨hM, lo, hR, hB⟩ := HX.out
        by_cases h0 : gk = 0
        · subst h0
          have hm : m = 9 := by omega
          subst hm
          have HE2 := hd (HE.out wr hM)
          clear HX hM hR hB hmk HE
          go_wp2_with fail
          go_ret
          exact ⟨rfl, HE2.out⟩
        · obtain ⟨a', c', w', hap, hR', hM', hN'⟩ := push_any (T := 33) Try.underlying33 infoN rfl hR (by unfold maxLen; omega) (by omega) [.int .i64 (-6)] rfl (by simp [Value.oneCell'])
          have hm9 : m < 9 := by omega
          have HE2 : Hid (Below w0.heap.size w0 w' ∧ ∃ lo, Row w' 3 1 a' (i + (m + 1)) c' (iC lo) ∧ ∀ k, blk a' = some k → w0.heap.size ≤ k) := hd ⟨hM.trans (hM'.below hM.size (fun k _ hk => hB k hk)), lo ++ [-6], by rw [iC_app]; exact hR', fun k hk => by
            rcases hN' k hk with h | h
            · exact hB k h
            · exact Nat.le_trans hM.size h⟩
          replace hap := hd hap
          clear HX hM hR hB hR' hM' hN' h0
          go_wp2_with (first | (at_builtin; refine wpList_append_run rfl _ _ _ rfl _ _ _ _ rfl rfl hap.out ?_; clear hap))
          go_roundg (gk - 1)
          case rel => exact ⟨m + 1, c', a', by omega, by go_num, rfl, HE2⟩
          case measure => omega
    · have hlt : i < n' := by omega
      obtain ⟨go, rfl, z0⟩ := hR.cell i (by omega)
      have z0' : ∃ u, wr.cell? ⟨go, i, none⟩ = some u := by
        have hl := hR.len
        rw [iC_len] at hl
        rw [z0, iC_at lo i (by omega) 0]
        exact ⟨_, rfl⟩
      obtain ⟨u, xu⟩ := z0'
      have xf := hR.free i go rfl
      have HE2 : Hid (Below w0.heap.size w0 (wr.setCell ⟨go, i, none⟩ (.int .i64 (-5))) ∧ ∃ lo, Row (wr.setCell ⟨go, i, none⟩ (.int .i64 (-5))) 3 1 (some ⟨go, 0, none⟩) n' c (iC lo)) := hd ⟨hM.trans (((Mod.refl (fun k => k = go) wr).setCell (p := ⟨go, i, none⟩) (.inl rfl) _).below hM.size (fun k _ hk => by rw [hk]; exact HOB.out go rfl)), lo.set i (-5), by rw [← iC_set]; exact hR.put i _⟩
      clear HX hM hR z0 h0
      go_wp2_with fail
      go_roundg (gk - 1)
      case rel => exact ⟨i + 1, by omega, by go_num, HE2⟩
      case measure => omega

theorem wC_set : ∀ (O : List (Int × Int)) (i : Nat) (t : Int × Int), ((wC O).set (i * 2) (.int .i64 t.1)).set (i * 2 + 1) (.int .i64 t.2) = wC (O.set i t)
  | [], i, t => by simp [wC]
  | x :: r, 0, t => rfl
  | x :: r, i + 1, t => by
    have ih := wC_set r i t
    have e : ∀ y (l : List (Int × Int)), wC (y :: l) = wP y ++ wC l := fun y l => by simp [wC]
    rw [List.set_cons_succ, e, e, ← ih, List.set_append_right _ _ (by rw [show (wP x).length = 2 from rfl]; omega), List.set_append_right _ _ (by rw [show (wP x).length = 2 from rfl]; omega), show (wP x).length = 2 from rfl, show (i + 1) * 2 - 2 = i * 2 by omega, show (i + 1) * 2 + 1 - 2 = i * 2 + 1 by omega]
theorem Row.putT {w : World} {e : TypeId} {g n cap : Nat} {O : List (Int × Int)} (h : Row w e 2 (some ⟨g, 0, none⟩) n cap (wC O)) (i : Nat) (t : Int × Int) : Row ((w.setCell ⟨g, i * 2, none⟩ (.int .i64 t.1)).setCell ⟨g, i * 2 + 1, none⟩ (.int .i64 t.2)) e 2 (some ⟨g, 0, none⟩) n cap (wC (O.set i t)) := by
  have := (h.put (i * 2) (.int .i64 t.1)).put (i * 2 + 1) (.int .i64 t.2)
  rwa [wC_set] at this
theorem row_t {w : World} {a : Option Addr} {n c : Nat} {O : List (Int × Int)} {e : TypeId} (h : Row w e 2 a n c (wC O)) (i : Nat) (hi : i < n) : ∃ g, a = some ⟨g, 0, none⟩ ∧ w.cell? ⟨g, i * 2, none⟩ = some (.int .i64 (O.getD i (0, 0)).1) ∧ w.cell? ⟨g, i * 2 + 1, none⟩ = some (.int .i64 (O.getD i (0, 0)).2) := by
  have hl := h.len
  rw [wC_len] at hl
  obtain ⟨g, rfl, h0⟩ := h.cell (i * 2) (by omega)
  obtain ⟨g', e, h1⟩ := h.cell (i * 2 + 1) (by omega)
  cases e
  exact ⟨g, rfl, by rw [h0]; exact (wC_at O i (by omega)).1, by rw [h1]; exact (wC_at O i (by omega)).2⟩
theorem Two.join2 {w wr w1 w2 : World} {b1 b2 : Nat} {os os' : List Int} {qs qs' : Qs} {F1 F2 F1' : Nat → Prop} (h2 : Rk wr b2 F2 os qs) (h3 : ∀ k, F1 k → ¬ F2 k) (h4 : ∀ k, F1 k ∨ F2 k → w.heap.size ≤ k) (h5 : Below w.heap.size w wr) (m1 : Mod F1 wr w1) (l1 : Lk w1 b1 F1' os' qs') (n1 : ∀ k, F1' k → F1 k ∨ wr.heap.size ≤ k) (o2 : RkOut w1 b2 F2 os' qs' w2) :
    ∃ F2' : Nat → Prop, Below w.heap.size w w2 ∧ (∀ k, F2' k → F2 k ∨ w1.heap.size ≤ k) ∧ (∀ k, F2' k → k < w2.heap.size) ∧ ∀ (S : Nat → Prop) (W : World), Mod S w2 W → (∀ k, S k → ¬ F1' k ∧ ¬ F2' k ∧ w.heap.size ≤ k) → Two w W b1 b2 os' qs' := by
  obtain ⟨m2, F2', l2, n2⟩ := o2
  have hl2 := h2.lt
  have hl1' := l1.lt
  have hd1 : ∀ k, F1' k → ¬ F2 k := fun k hk h => by
    rcases n1 k hk with h6 | h6
    · exact h3 k h6 h
    · have := hl2 k h; omega
  have hk := l1.mod m2 (fun k hk => hd1 k hk)
  have b1' := m1.below h5.size (fun k _ hk => h4 k (.inl hk))
  have hb1 := h5.trans b1'
  have hb2 := hb1.trans (m2.below hb1.size (fun k _ hk => h4 k (.inr hk)))
  refine ⟨F2', hb2, n2, l2.lt, fun S W hm hS => ⟨F1', F2', hk.mod hm (fun k hk hs => (hS k hs).1 hk), l2.mod hm (fun k hk hs => (hS k hs).2.1 hk), fun k hk1 hk2 => ?_, fun k hk => ?_, hb2.trans (hm.below hb2.size (fun k _ hs => (hS k hs).2.2))⟩⟩
  · rcases n2 k hk2 with h6 | h6
    · exact hd1 k hk1 h6
    · have := hl1' k hk1; omega
  · rcases hk with hk | hk
    · rcases n1 k hk with h6 | h6
      · exact h4 k (.inl h6)
      · exact Nat.le_trans h5.size h6
    · rcases n2 k hk with h6 | h6
      · exact h4 k (.inr h6)
      · exact Nat.le_trans hb1.size h6

theorem EndOut.ex {w : World} {b : Nat} {F : Nat → Prop} {os' : List Int} {qs' : Qs} {out : List (Int × Int)} {e : Ending} {w' : World} (h : EndOut w b F os' qs' out e w') : ∃ a c, e = .returned (.slice a out.length c) ∧ ∃ F', Mod F w w' ∧ Lk w' b F' os' qs' ∧ (∀ k, F' k → F k ∨ w.heap.size ≤ k) ∧ Row w' 67 2 a out.length c (wC out) ∧ ∀ k, blk a = some k → w.heap.size ≤ k ∧ ¬ F' k := by
  obtain ⟨h1, F', a, c, h2, h3, h4, h5, h6⟩ := h
  exact ⟨a, c, h2, F', h1, h3, h4, h5, h6⟩
theorem REndOut.ex {w : World} {b : Nat} {F : Nat → Prop} {os' : List Int} {qs' : Qs} {out : List (Int × Int)} {e : Ending} {w' : World} (h : REndOut w b F os' qs' out e w') : ∃ a c, e = .returned (.slice a out.length c) ∧ RkOut w b F os' qs' w' ∧ Row w' 73 2 a out.length c (wC out) ∧ ∀ k, blk a = some k → w.heap.size ≤ k := by
  obtain ⟨h1, a, c, h2, h3, h4⟩ := h
  exact ⟨a, c, h2, h1, h3, h4⟩
theorem endF_out (l : List Int) (os : List Int) (qs : Qs) (out : List (Int × Int)) : (endF l os qs out).2.2.length = out.length + l.length := by
  induction l generalizing os qs out with
  | nil => rfl
  | cons i r ih => rw [endF, ih]; simp; omega

set_option maxRecDepth 100000 in
set_option maxHeartbeats 4000000 in
theorem step_end {w wr : World} {b1 b2 : Nat} {os : List Int} {qs : Qs} (h : Two w wr b1 b2 os qs) (ht : total qs < 6000000000000) (lock : Int) {p : Int} (hp : Fit64 p) :
    Calls Try.prog 23 #[.pointer (some ⟨b1, 0, none⟩), .pointer (some ⟨b2, 0, none⟩), .agg #[.int .i64 3, .int .i64 lock, .int .i64 p]] wr fun e w' => e = .returned (.bool true) ∧ StepOut w b1 b2 qs w' := by
  obtain ⟨w0, hw0⟩ : ∃ W, Hid (wr.alloc (.cells #[.int .i64 3, .int .i64 lock, .int .i64 p] 41) = W) := ⟨_, rfl⟩
  have hb0 : Below wr.heap.size wr w0 := by rw [← hw0.out]; exact below_al wr _
  obtain ⟨x0, x1, x2⟩ := box_cells wr 3 lock p
  rw [hw0.out] at x0 x1 x2
  obtain ⟨G, hG⟩ : ∃ G, Hid (wr.heap.size = G) := ⟨_, rfl⟩
  have hGl : wr.heap.size < w0.heap.size := by rw [← hw0.out]; simp
  have hG8 := h.good
  have HOL : Hid ((endA os qs p).2.2.length ≤ 8) := hd (by
    unfold endA
    rw [endF_out]
    simp only [List.length_nil, Nat.zero_add]
    exact Nat.le_trans (holdTo_len _ _ _) hG8.le)
  have HTT : Hid (total (endA os qs p).2.1 ≤ total qs + 1) := hd (Nat.le_trans (total_end _ _ _) (Nat.le_succ _))
  obtain ⟨F1, F2, h1, h2, h3, h4, h5⟩ := h
  have hl1 := h1.lt
  have hl2 := h2.lt
  have hen := end_any (h1.below hb0) (by omega) hp
  obtain ⟨osE, hosE⟩ : ∃ x, Hid ((endA os qs p).1 = x) := ⟨_, rfl⟩
  obtain ⟨qsE, hqsE⟩ : ∃ x, Hid ((endA os qs p).2.1 = x) := ⟨_, rfl⟩
  obtain ⟨out, hout⟩ : ∃ x, Hid ((endA os qs p).2.2 = x) := ⟨_, rfl⟩
  have HRE : Hid (∀ W, Mod F1 w0 W → W.cell? ⟨G, 2, none⟩ = some (.int .i64 p) ∧ Calls Try.prog 34 #[.pointer (some ⟨b2, 0, none⟩), .int .i64 p] W fun e w' => REndOut W b2 F2 osE qsE out e w') := hd (fun W hm => by
    have hg : ¬ F1 wr.heap.size := fun e => by have := hl1 _ e; omega
    rw [← hG.out]
    refine ⟨(hm.cell (p := ⟨wr.heap.size, 2, none⟩) hGl hg).trans x2, ?_⟩
    have := rend_any ((h2.below hb0).mod hm (fun k hk hf => h3 k hf hk)) (by omega) p
    rw [hosE.out, hqsE.out, hout.out] at this
    exact this)
  rw [hosE.out, hqsE.out, hout.out] at hen
  rw [hqsE.out] at HTT
  rw [hout.out] at HOL
  have HJN : Hid (∀ w1 w2 F1', Mod F1 w0 w1 → Lk w1 b1 F1' osE qsE → (∀ k, F1' k → F1 k ∨ w0.heap.size ≤ k) → RkOut w1 b2 F2 osE qsE w2 → ∃ F2' : Nat → Prop, Below w.heap.size w w2 ∧ (∀ k, F2' k → F2 k ∨ w1.heap.size ≤ k) ∧ (∀ k, F2' k → k < w2.heap.size) ∧ ∀ (S : Nat → Prop) (W : World), Mod S w2 W → (∀ k, S k → ¬ F1' k ∧ ¬ F2' k ∧ w.heap.size ≤ k) → Two w W b1 b2 osE qsE) := hd (fun w1 w2 F1' m1 l1 n1 o2 => Two.join2 (h2.below hb0) h3 h4 (h5.trans (hb0.mono h5.size)) m1 l1 n1 o2)
  have HF2 : Hid (∀ k, F2 k → k < w0.heap.size) := hd (fun k hk => by have := hl2 k hk; omega)
  have HW0 : Hid (w.heap.size ≤ w0.heap.size) := hd (Nat.le_trans h5.size hb0.size)
  obtain ⟨ol, hol⟩ : ∃ ol, Hid (out.length = ol) := ⟨_, rfl⟩
  have hol8 : ol ≤ 8 := by rw [← hol.out]; exact HOL.out
  have hGG := hG
  rw [hG.out] at x0 x1 x2
  clear h1 h2 h3 h4 h5 hl1 hl2 hb0 hGl hG8 hosE hqsE hout HOL
  go_enter Try.func23, Try.ntmps23
  go_upto_region 1 with fail
  rw [hw0.out, hGG.out]
  clear hw0 hGG hG
  go_upto_region 12 with (first
    | (go_at_call 19; refine hen.mono ?_; rintro e1 w1 ho1
       obtain ⟨a, c, rfl, hx1⟩ := ho1.ex
       clear ho1))
  obtain ⟨F1', m1, l1, n1, ra, na⟩ := hx1
  obtain ⟨y2, hre⟩ := HRE.out w1 m1
  have M1 := hd m1
  have L1 := hd l1
  have N1 := hd n1
  have RA := hd ra
  have NA := hd na
  clear m1 l1 n1 ra na hen HRE x0 x1 x2
  rw [hol.out]
  go_upto_region 13 with (first
    | (go_at_call 34; refine hre.mono ?_; rintro e2 w2 ho2
       obtain ⟨a', c', rfl, hx2⟩ := ho2.ex
       clear ho2))
  rw [hol.out]
  obtain ⟨o2, rb, nb⟩ := hx2
  obtain ⟨F2', jb, jn, jl, jt⟩ := HJN.out w1 w2 F1' M1.out L1.out N1.out o2
  have ha1 : ∀ k, blk a = some k → k < w1.heap.size := RA.out.lt
  have HSA : Hid (∀ k, blk a = some k → ¬ F1' k ∧ ¬ F2' k ∧ w.heap.size ≤ k) := hd (fun k hk => by
    refine ⟨(NA.out k hk).2, fun e => ?_, Nat.le_trans HW0.out (NA.out k hk).1⟩
    rcases jn k e with h | h
    · have := HF2.out k h; have := (NA.out k hk).1; omega
    · have := ha1 k hk; omega)
  have hra := RA.out.mod o2.1 (fun k hk e => by have := HF2.out k e; have := (NA.out k hk).1; omega)
  have HRB : Hid (∀ W, Mod (fun k => blk a = some k) w2 W → Row W 73 2 a' ol c' (wC out)) := hd (fun W hm => by
    rw [hol.out] at rb
    exact rb.mod hm (fun k hk e => by have := nb k hk; have := ha1 k e; omega))
  have JT := hd jt
  have HSZ : Hid (w.heap.size ≤ w2.heap.size) := hd jb.size
  have HL2 : Hid (∀ k, F1' k ∨ F2' k → k < w2.heap.size) := hd (fun k hk => by
    rcases hk with hk | hk
    · have := L1.out.lt k hk
      have := o2.1.size
      omega
    · exact jl k hk)
  rw [hol.out] at hra
  have HS : Hid (Mod (fun k => blk a = some k) w2 w2 ∧ ∃ la, Row w2 67 2 a ol c (wC la) ∧ ∀ j, 0 ≤ j → la.getD j (0, 0) = out.getD j (0, 0)) := hd ⟨Mod.refl _ _, out, hra, fun _ _ => rfl⟩
  have hne : ((ol : Int) != (ol : Int)) = false := by simp
  clear hre o2 rb nb jb jn jt jl ha1 hra M1 L1 N1 RA NA y2 HJN HF2 HW0
  go_wp2_with fail
  go_loopg [17, 100, 101, 102, 103, 104, 105, 106, 107, 108, 109, 110, 111, 112, 113, 114, 115, 116, 117, 118, 119, 120, 121, 122, 123, 124, 125, 126, 127, 128, 129, 130, 131, 132, 133] ol (fun k v17 v100 v101 v102 v103 v104 v105 v106 v107 v108 v109 v110 v111 v112 v113 v114 v115 v116 v117 v118 v119 v120 v121 v122 v123 v124 v125 v126 v127 v128 v129 v130 v131 v132 v133 wr => ∃ i : Nat, i + k = ol ∧ v17 = .int .i64 (i : Int) ∧ Hid (Mod (fun k => blk a = some k) w2 wr ∧ ∃ la, Row wr 67 2 a ol c (wC la) ∧ ∀ j, i ≤ j → la.getD j (0, 0) = out.getD j (0, 0)))
  case atStart => exact ⟨0, by omega, by go_num, HS⟩
  case round =>
    obtain ⟨i, hik, rfl, HX⟩ := hrel
    clear HS
    obtain ⟨hM, la, hR, hla⟩ := HX.out
    by_cases h0 : gk = 0
    · subst h0
      have hi : i = ol := by omega
      subst hi
      have HS4 : Hid (∃ S : Nat → Prop, Mod S w2 wr ∧ (∀ k, S k → ¬ F1' k ∧ ¬ F2' k ∧ w.heap.size ≤ k) ∧ ∃ la, Row wr 67 2 a (i + 0) c (wC la) ∧ ∀ k, blk a = some k → ¬ F1' k ∧ ¬ F2' k ∧ w.heap.size ≤ k) := hd ⟨_, hM, HSA.out, la, hR, HSA.out⟩
      clear HX hM hR hla hik HSA HRB
      go_wp2_with fail
      go_loopg [15, 18, 134, 135, 136, 137, 138, 139, 140, 141] 9 (fun k v15 v18 v134 v135 v136 v137 v138 v139 v140 v141 wr => ∃ (m c : Nat) (a : Option Addr), m + k = 9 ∧ v18 = .int .i64 (m : Int) ∧ v15 = .slice a (i + m) c ∧ Hid (∃ S : Nat → Prop, Mod S w2 wr ∧ (∀ k, S k → ¬ F1' k ∧ ¬ F2' k ∧ w.heap.size ≤ k) ∧ ∃ la, Row wr 67 2 a (i + m) c (wC la) ∧ ∀ k, blk a = some k → ¬ F1' k ∧ ¬ F2' k ∧ w.heap.size ≤ k))
      case atStart => exact ⟨0, c, a, by omega, by go_num, rfl, HS4⟩
      case round =>
        obtain ⟨m, c, a, hmk, rfl, rfl, HX⟩ := hrel
        clear HS4
        obtain ⟨S, hM, hS, lb, hR, hB⟩ := HX.out
        by_cases h0 : gk = 0
        · subst h0
          have hm : m = 9 := by omega
          subst hm
          have HE2 : Hid (StepOut w b1 b2 qs wr) := hd ⟨osE, qsE, JT.out S wr hM hS, HTT.out⟩
          clear HX hM hR hB hmk hS
          go_wp2_with fail
          go_ret
          exact ⟨rfl, HE2.out⟩
        · have hm9 : m < 9 := by omega
          obtain ⟨a', c', w', hap, hR', hM', hN'⟩ := push_any (T := 49) Try.underlying49 infoG rfl hR (by unfold maxLen; omega) (by omega) [.int .i64 (-3), .int .i64 (-3)] rfl (by simp [Value.oneCell'])
          have HE2 : Hid (∃ S : Nat → Prop, Mod S w2 w' ∧ (∀ k, S k → ¬ F1' k ∧ ¬ F2' k ∧ w.heap.size ≤ k) ∧ ∃ la, Row w' 67 2 a' (i + (m + 1)) c' (wC la) ∧ ∀ k, blk a' = some k → ¬ F1' k ∧ ¬ F2' k ∧ w.heap.size ≤ k) := hd ⟨fun k => S k ∨ blk a = some k, (hM.mono (fun k _ h => .inl h)).trans hM' (fun k hk => .inl (.inr hk)), fun k hk => by
            rcases hk with h | h
            · exact hS k h
            · exact hB k h, lb ++ [(-3, -3)], by rw [wC_app]; exact hR', fun k hk => by
            rcases hN' k hk with h | h
            · exact hB k h
            · have h2 := Nat.le_trans hM.size h
              exact ⟨fun e => absurd (HL2.out k (.inl e)) (Nat.not_lt.2 h2), fun e => absurd (HL2.out k (.inr e)) (Nat.not_lt.2 h2), Nat.le_trans HSZ.out h2⟩⟩
          have hap : Hid (∀ ty, (Builtin.append_ #[49, 49] ty #[.slice a (i + m) c, .slice (some ⟨wr.heap.size, 0, none⟩) 1 1]).run Try.prog (wr.alloc (.cells #[.int .i64 (-3), .int .i64 (-3)] 67)) = .ok (.slice a' (i + m + 1) c') w') := hd hap
          clear HX hM hR hB hR' hM' hN' h0 hS
          go_wp2_with (first | (at_builtin; refine wpList_append_run rfl _ _ _ rfl _ _ _ _ rfl rfl hap.out ?_; clear hap))
          go_roundg (gk - 1)
          case rel => exact ⟨m + 1, c', a', by omega, by go_num, rfl, HE2⟩
          case measure => omega
    · have hlt : i < ol := by omega
      obtain ⟨ga, rfl, z0, z1⟩ := row_t hR i hlt
      obtain ⟨gb, rfl, z2, z3⟩ := row_t (HRB.out wr hM) i hlt
      rw [hla i (Nat.le_refl _)] at z0 z1
      obtain ⟨⟨v1, v2⟩, hv⟩ : ∃ v, Hid (out.getD i (0, 0) = v) := ⟨_, rfl⟩
      rw [hv.out] at z0 z1 z2 z3
      simp only at z0 z1 z2 z3
      have HE2 : Hid (∀ q, Mod (fun k => blk (some ({ block := ga, off := 0 } : Addr)) = some k) w2 (((wr.drewN q).setCell ⟨ga, i * 2, none⟩ (.int .i64 (-1))).setCell ⟨ga, i * 2 + 1, none⟩ (.int .i64 (-2))) ∧ ∃ la, Row (((wr.drewN q).setCell ⟨ga, i * 2, none⟩ (.int .i64 (-1))).setCell ⟨ga, i * 2 + 1, none⟩ (.int .i64 (-2))) 67 2 (some ⟨ga, 0, none⟩) ol c (wC la) ∧ ∀ j, i + 1 ≤ j → la.getD j (0, 0) = out.getD j (0, 0)) := hd (fun q => by
        have hb := below_drewN (below_same wr) q
        refine ⟨((hM.after hb).setCell (p := ⟨ga, i * 2, none⟩) (.inl rfl) _).setCell (p := ⟨ga, i * 2 + 1, none⟩) (.inl rfl) _, _, (hR.below hb).putT i (-1, -2), fun j hj => ?_⟩
        rw [← hla j (by omega), List.getD_eq_getElem?_getD, List.getD_eq_getElem?_getD, List.getElem?_set, if_neg (by omega)])
      have xf0 := hR.free (i * 2) ga rfl
      have xf1 := hR.free (i * 2 + 1) ga rfl
      clear HX hM hR hla HRB HSA h0 JT HL2 HSZ HTT
      go_upto_region 18 with fail
      go_quiet (fail)
      go_wp2_with fail
      go_roundg (gk - 1)
      case rel => exact ⟨i + 1, by omega, by go_num, hd (HE2.out _)⟩
      case measure => omega
end Go.Proofs.Ytdihbbpndijdoaa
