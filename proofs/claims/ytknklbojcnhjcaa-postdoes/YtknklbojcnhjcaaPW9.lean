/- New, Some. -/
import Derived.Test.YtknklbojcnhjcaaPW8
namespace Go.Proofs.Ytknklbojcnhjcaa
open Go.RowKit

theorem tAt_rep {n i : Nat} (h : i < n) : tAt (List.replicate n T0) i = T0 := by
  unfold tAt
  rw [List.getD_eq_getElem?_getD, List.getElem?_replicate, if_pos h]
  rfl
theorem made4 (n : Nat) : (madeCells (Value.agg #[.slice none 0 0, .slice none 0 0, .int .i64 0, .int .i64 0]).cells (n * 4)).toList = tlC (List.replicate n T0) := by
  refine List.ext_getElem? (fun j => ?_)
  by_cases hj : j < n * 4
  · have hl : (madeCells (Value.agg #[.slice none 0 0, .slice none 0 0, .int .i64 0, .int .i64 0]).cells (n * 4)).toList[j]? = some ((Value.agg #[.slice none 0 0, .slice none 0 0, .int .i64 0, .int .i64 0]).cells[j % 4]!) := by
      simp [madeCells, hj, Value.cells]
    rw [hl]
    have hi : j / 4 < n := by omega
    obtain ⟨k0, k1, k2, k3⟩ := tlC_at (List.replicate n T0) (j / 4) (by simpa using hi)
    rw [tAt_rep hi] at k0 k1 k2 k3
    have hr : j % 4 = 0 ∨ j % 4 = 1 ∨ j % 4 = 2 ∨ j % 4 = 3 := by omega
    rcases hr with hr | hr | hr | hr
    · rw [show j = j / 4 * 4 by omega, k0, show j / 4 * 4 % 4 = 0 by omega]; rfl
    · rw [show j = j / 4 * 4 + 1 by omega, k1, show (j / 4 * 4 + 1) % 4 = 1 by omega]; rfl
    · rw [show j = j / 4 * 4 + 2 by omega, k2, show (j / 4 * 4 + 2) % 4 = 2 by omega]; rfl
    · rw [show j = j / 4 * 4 + 3 by omega, k3, show (j / 4 * 4 + 3) % 4 = 3 by omega]; rfl
  · rw [List.getElem?_eq_none (by simp [size_madeCells]; omega), List.getElem?_eq_none (by rw [tlC_len]; simp; omega)]
/-- Empty lanes, as make lays them. -/
theorem als_made (w : World) (n : Nat) : ALs (w.alloc (.cells (madeCells (Value.agg #[.slice none 0 0, .slice none 0 0, .int .i64 0, .int .i64 0]).cells (n * 4)) 29)) (some ⟨w.heap.size, 0, none⟩) (List.replicate n T0) := by
  refine ⟨fun j u hj => ⟨_, _, rfl, ?_⟩, fun t ht => ?_⟩
  · rw [cell_of_row _ _ _ _ _ _ (heap_alloc_new w _), Nat.zero_add]
    rw [← made4] at hj
    simpa using hj
  · rw [(List.mem_replicate.1 ht).2]
    exact al_nil _
theorem fit_rep (n : Nat) : FitT (List.replicate n T0) := fun t ht => by
  rw [(List.mem_replicate.1 ht).2]
  exact ⟨by simp [T0], by simp [T0]⟩
theorem rep_ls (n room : Nat) : (List.replicate n T0).map (·.ls room) = List.replicate n (LS.new room) := by
  rw [List.map_replicate]
  rfl
theorem rep_may {n room : Nat} (h1 : 1 ≤ room) (h2 : room ≤ 64) : ∀ t ∈ List.replicate n T0, MayL room t.vs t.ws t.tk t.dr := fun t ht => by
  rw [(List.mem_replicate.1 ht).2]
  exact (good_new h1 h2).may

set_option maxRecDepth 100000 in
theorem pnew_no {n room : Int} {w : World} (h : mayP n room = false) : Calls Try.prog 12 #[.int .i64 n, .int .i64 room] w (Refused w 1) := by
  have hm := may_any n room w
  rw [h] at hm
  clear h
  go_enter Try.func12, Try.ntmps12
  go_wp2_with (first | (go_at_call 20; refine hm.mono ?_; rintro e1 w1 ⟨rfl, rfl⟩))
  go_ret2
  exact ⟨rfl, below_same _⟩
set_option maxRecDepth 100000 in
theorem pnew_ok {n room : Nat} {w : World} (h1 : 1 ≤ n) (h2 : n ≤ 9) (hr1 : 1 ≤ room) (hr2 : room ≤ 64) : Calls Try.prog 12 #[.int .i64 (n : Int), .int .i64 (room : Int)] w (MadeP w 59 89 60 (List.replicate n (LS.new room)) 0) := by
  have hm := may_any n room w
  rw [show mayP (n : Int) (room : Int) = true by simp [mayP]; omega] at hm
  have hmk := make_eq 22 29 _ 4 64 Try.underlying22 infoA n (by omega) (by unfold maxLen; omega) w
  have hly := play_any (room := room) (c := n) (cur := 0) (als_made w n) (by simpa using h2) (by simpa using h1) hr1 hr2 (by simp; omega) (fit_rep n)
  have HB := hd (below_al w (.cells (madeCells (Value.agg #[.slice none 0 0, .slice none 0 0, .int .i64 0, .int .i64 0]).cells (n * 4)) 29))
  obtain ⟨zs, hzs⟩ : ∃ zs, Hid (madeCells (Value.agg #[.slice none 0 0, .slice none 0 0, .int .i64 0, .int .i64 0]).cells (n * 4) = zs) := ⟨_, rfl⟩
  rw [hzs.out] at hmk hly HB
  rw [List.length_replicate] at hly
  have hly : Calls Try.prog 8 #[.int .i64 (room : Int), .slice (some ⟨w.heap.size, 0, none⟩) n n, .int .i64 0] (w.alloc (.cells zs 29)) (LayOut (w.alloc (.cells zs 29)) 59 89 60 room (List.replicate n T0) 0) := hly
  obtain ⟨R, hR⟩ : ∃ R : Ending → World → Prop, Hid (LayOut (w.alloc (.cells zs 29)) 59 89 60 room (List.replicate n T0) 0 = R) := ⟨_, rfl⟩
  rw [hR.out] at hly
  have hfin : Hid (∀ e w', R e w' → ∃ b, e = .returned (.tuple #[.pointer (some ⟨b, 0, none⟩), .int .i64 0]) ∧ MadeP w 59 89 60 (List.replicate n (LS.new room)) 0 e w') := hd (fun e w' h => by
    rw [← hR.out] at h
    rcases h with ⟨_, b, F, rfl, h3, h4, h5⟩ | ⟨⟨t, ht, hn⟩, _⟩
    · rw [rep_ls] at h3
      exact ⟨b, rfl, b, F, rfl, h3, fun k hk => Nat.le_trans HB.out.size (h4 k hk), HB.out.trans (h5.mono HB.out.size)⟩
    · exact absurd (rep_may hr1 hr2 t ht) hn)
  clear hr1 hr2
  go_enter Try.func12, Try.ntmps12
  go_wp2_with (first | (go_at_call 20; refine hm.mono ?_; rintro e1 w1 ⟨rfl, rfl⟩) | (go_at_call 8; refine hly.mono ?_; rintro e2 w2 hq; obtain ⟨b, rfl, hM⟩ := hfin.out _ _ hq))
  go_ret2
  exact hM

section
variable {b : Nat} {F : Nat → Prop} {ss : List LS} {cur : Nat} {w : World}
theorem some1_any {b : Nat} {F : Nat → Prop} {s : LS} {w : World} (h : Ln w 89 b F s) (B : Bool) (hB : B = decide (s.vs ≠ [])) :
    Calls Try.prog 44 #[.pointer (some ⟨b, 0, none⟩)] w fun e w' => e = .returned (.bool B) ∧ w' = w := by
  have hl := len_any h
  obtain ⟨n, hn⟩ : ∃ n, Hid (s.vs.length = n) := ⟨_, rfl⟩
  rw [hn.out] at hl
  have e : B = decide (0 < n) := by
    rw [hB, ← hn.out]
    cases s.vs <;> simp
  clear hB h
  subst e
  go_enter Try.func44, Try.ntmps44
  go_wp2_with (first | (go_at_call 40; refine hl.mono ?_; rintro e1 w1 ⟨rfl, rfl⟩))
  go_ret
  exact ⟨by first | rfl | simp, rfl⟩

/-- The first one of which it holds; -1: none. -/
def idxP (f : LS → Bool) : List LS → Int
  | [] => -1
  | s :: ss => if f s then 0 else if idxP f ss < 0 then -1 else idxP f ss + 1
theorem idxP_none {f : LS → Bool} {ss : List LS} (h : ∀ j, j < ss.length → f (lnOf ss j) = false) : idxP f ss = -1 := by
  induction ss with
  | nil => rfl
  | cons s ss ih =>
    unfold idxP
    rw [if_neg (by simpa [lnOf] using h 0 (by simp)), ih (fun j hj => by simpa [lnOf] using h (j + 1) (by simp; omega))]
    rfl
theorem idxP_some {f : LS → Bool} {ss : List LS} {i : Nat} (hi : i < ss.length) (h : f (lnOf ss i) = true) (h0 : ∀ j, j < i → f (lnOf ss j) = false) : idxP f ss = i := by
  induction ss generalizing i with
  | nil => simp at hi
  | cons s ss ih =>
    unfold idxP
    cases i with
    | zero => rw [if_pos (by simpa [lnOf] using h)]; rfl
    | succ i =>
      have := ih (i := i) (by simpa using hi) (by simpa [lnOf] using h) (fun j hj => by simpa [lnOf] using h0 (j + 1) (by omega))
      rw [if_neg (by simpa [lnOf] using h0 0 (by omega)), this, if_neg (by omega)]
      omega
theorem idxP_any (f : LS → Bool) (ss : List LS) : decide (0 ≤ idxP f ss) = ss.any f := by
  induction ss with
  | nil => rfl
  | cons s ss ih =>
    unfold idxP
    rw [List.any_cons, ← ih]
    by_cases h : f s = true
    · rw [if_pos h, h]; simp
    · rw [if_neg h, show f s = false by simpa using h]
      by_cases h2 : idxP f ss < 0
      · rw [if_pos h2]; simp; omega
      · rw [if_neg h2]; simp; omega

set_option maxRecDepth 100000 in
set_option maxHeartbeats 1000000 in
/-- slices.IndexFunc over lanes. -/
theorem lindexS {a : Option Addr} {cap : Nat} {bs : List Nat} {Fs : Nat → Nat → Prop} (f : LS → Bool) (h : PsAt w 59 89 60 b ss cur a cap bs Fs) (hn : ss.length ≤ 9)
    (hcall : ∀ (W : World) (i : Nat), i < ss.length → Below w.heap.size w W → Calls Try.prog 44 #[.pointer (some ⟨bs.getD i 0, 0, none⟩)] W fun e w' => e = .returned (.bool (f (lnOf ss i))) ∧ Below W.heap.size W w') :
    Calls Try.prog 66 #[.slice a ss.length cap, .func (.func 44) #[] #[]] w fun e w' => e = .returned (.int .i64 (idxP f ss)) ∧ Below w.heap.size w w' := by
  obtain ⟨I, hI⟩ : ∃ I, Hid (idxP f ss = I) := ⟨_, rfl⟩
  rw [hI.out]
  have HP := hd h
  have HCL := hd hcall
  obtain ⟨n, hnn⟩ : ∃ n, Hid (ss.length = n) := ⟨_, rfl⟩
  rw [hnn.out] at hn ⊢
  clear h hcall
  go_enter Try.func66, Try.ntmps66
  go_wp2_with fail
  go_loopg [5, 8] n (fun k v5 v8 wr => ∃ i : Nat, v8 = .int .i64 i ∧ i + k = n ∧ Hid (Below w.heap.size w wr ∧ ∀ j, j < i → f (lnOf ss j) = false))
  case atStart => exact ⟨0, rfl, by omega, hd ⟨below_same _, fun j hj => absurd hj (Nat.not_lt_zero j)⟩⟩
  case round =>
    obtain ⟨i, rfl, hik, HH⟩ := hrel
    have hb := HH.out.1
    by_cases hlt : i < n
    · have hlt' : (i : Int) < (n : Int) := by omega
      have hlt2 : i < ss.length := by rw [hnn.out]; exact hlt
      obtain ⟨g, rfl, c0⟩ := (HP.out.below hb).ptr i hlt2
      have hcl := HCL.out wr i hlt2 hb
      obtain ⟨p, hp⟩ : ∃ p, Hid (bs.getD i 0 = p) := ⟨_, rfl⟩
      rw [hp.out] at c0 hcl
      cases hf : f (lnOf ss i) with
      | true =>
        rw [hf] at hcl
        have hF : Hid (I = (i : Int)) := hd (by rw [← hI.out]; exact idxP_some hlt2 hf HH.out.2)
        clear hf hlt2
        go_wp2_with (first | (go_at_call 44; refine hcl.mono ?_; rintro e1 w1 ⟨rfl, b1⟩))
        go_ret
        exact ⟨by rw [hF.out]; rfl, hb.trans (b1.mono hb.size)⟩
      | false =>
        rw [hf] at hcl
        have HN := hd hf
        clear hf hlt2
        go_wp2_with (first | (go_at_call 44; refine hcl.mono ?_; rintro e1 w1 ⟨rfl, b1⟩))
        go_roundg (gk - 1)
        case measure => omega
        case rel =>
          exact ⟨i + 1, by go_num, by omega, hd ⟨hb.trans (b1.mono hb.size), fun j hj => by
            by_cases ej : j = i
            · rw [ej]; exact HN.out
            · exact HH.out.2 j (by omega)⟩⟩
    · have hltd : decide ((i : Int) < (n : Int)) = false := by simp; omega
      have hF : Hid (I = -1) := hd (by rw [← hI.out]; exact idxP_none (fun j hj => HH.out.2 j (by have := hnn.out; omega)))
      go_wp2_with fail
      go_ret
      exact ⟨by rw [hF.out]; rfl, hb⟩
set_option maxRecDepth 100000 in
theorem lcontS {a : Option Addr} {cap : Nat} {bs : List Nat} {Fs : Nat → Nat → Prop} (f : LS → Bool) (h : PsAt w 59 89 60 b ss cur a cap bs Fs) (hn : ss.length ≤ 9)
    (hcall : ∀ (W : World) (i : Nat), i < ss.length → Below w.heap.size w W → Calls Try.prog 44 #[.pointer (some ⟨bs.getD i 0, 0, none⟩)] W fun e w' => e = .returned (.bool (f (lnOf ss i))) ∧ Below W.heap.size W w') :
    Calls Try.prog 43 #[.slice a ss.length cap, .func (.func 44) #[] #[]] w fun e w' => e = .returned (.bool (ss.any f)) ∧ Below w.heap.size w w' := by
  have hi := lindexS f h hn hcall
  rw [← idxP_any]
  obtain ⟨I, hI⟩ : ∃ I, Hid (idxP f ss = I) := ⟨_, rfl⟩
  rw [hI.out] at hi ⊢
  obtain ⟨n, hnn⟩ : ∃ n, Hid (ss.length = n) := ⟨_, rfl⟩
  rw [hnn.out] at hi ⊢
  clear h hcall hn
  go_enter Try.func43, Try.ntmps43
  go_wp2_with (first | (go_at_call 66; refine hi.mono ?_; rintro e1 w1 ⟨rfl, b1⟩))
  go_ret
  exact ⟨rfl, b1⟩
set_option maxRecDepth 100000 in
theorem psome_any (h : Ps w 59 89 60 b F ss cur) (hn : ss.length ≤ 9) :
    Calls Try.prog 19 #[.pointer (some ⟨b, 0, none⟩)] w fun e w' => e = .returned (.bool (someP ss)) ∧ Below w.heap.size w w' := by
  obtain ⟨a, cap, bs, Fs, h, -, -⟩ := h
  obtain ⟨k0, k1⟩ := h.cells
  have hc := lcontS (fun s => decide (s.vs ≠ [])) h hn (fun W i hi hb => (some1_any ((h.below hb).lns i hi) _ rfl).mono (fun e w' ⟨h1, h2⟩ => ⟨h1, by rw [h2]; exact below_same _⟩))
  have hc : Calls Try.prog 43 #[.slice a ss.length cap, .func (.func 44) #[] #[]] w fun e w' => e = .returned (.bool (someP ss)) ∧ Below w.heap.size w w' := hc
  obtain ⟨n, hnn⟩ : ∃ n, Hid (ss.length = n) := ⟨_, rfl⟩
  obtain ⟨B, hB⟩ : ∃ B, Hid (someP ss = B) := ⟨_, rfl⟩
  rw [hnn.out] at hc k0
  rw [hB.out] at hc ⊢
  clear h hn
  go_enter Try.func19, Try.ntmps19
  go_wp2_with (first | (go_at_call 43; refine hc.mono ?_; rintro e1 w1 ⟨rfl, b1⟩))
  go_ret
  exact ⟨rfl, b1⟩
end
end Go.Proofs.Ytknklbojcnhjcaa
