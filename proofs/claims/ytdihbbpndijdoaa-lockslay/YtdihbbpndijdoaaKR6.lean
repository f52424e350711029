/- The document's side: New. -/
import Derived.Test.YtdihbbpndijdoaaKR3
namespace Go.Proofs.Ytdihbbpndijdoaa
open Go.RowKit Go.Maps

/-- The document's locks while they are made: all their blocks are new. -/
def RI (w wr : World) (b : Nat) (ao : Option Addr) (co : Nat) (aq : Option Addr) (cq : Nat) (os : List Int) (es : List Qe) : Prop := LB wr 54 [] b ao co aq cq os es ∧ (∀ k, lfp b ao aq es k → w.heap.size ≤ k) ∧ Below w.heap.size w wr
section
variable {w wr w' : World} {b : Nat} {ao : Option Addr} {co : Nat} {aq : Option Addr} {cq : Nat} {os : List Int} {es : List Qe}
theorem RI.below (h : RI w wr b ao co aq cq os es) (hb : Below wr.heap.size wr w') : RI w w' b ao co aq cq os es := ⟨h.1.below hb, h.2.1, h.2.2.trans (hb.mono h.2.2.size)⟩
theorem RI.pushO (h : RI w wr b ao co aq cq os es) (hn : os.length < 1000) (v : Int) :
    ∃ ao' co' w2, (∀ ty, (Builtin.append_ #[33, 33] ty #[.slice ao os.length co, .slice (some ⟨wr.heap.size, 0, none⟩) 1 1]).run Try.prog (wr.alloc (.cells #[.int .i64 v] 3)) = .ok (.slice ao' (os.length + 1) co') w2) ∧ (∃ u, w2.cell? ⟨b, 0, none⟩ = some u) ∧ w2.frozen? ⟨b, 0, none⟩ = false ∧ RI w (w2.setCell ⟨b, 0, none⟩ (.slice ao' (os.length + 1) co')) b ao' co' aq cq (os ++ [v]) es ∧ Mod (lfp b ao aq es) wr (w2.setCell ⟨b, 0, none⟩ (.slice ao' (os.length + 1) co')) ∧ ∀ k, lfp b ao' aq es k → lfp b ao aq es k ∨ wr.heap.size ≤ k := by
  obtain ⟨h1, h2, h3⟩ := h
  obtain ⟨ao', co', w2, m1, m2, m3, m4⟩ := push_any (T := 33) Try.underlying33 infoN rfl h1.ro (by unfold maxLen; omega) (by omega) [.int .i64 v] rfl (by simp [Value.oneCell'])
  have hM : Mod (lfp b ao aq es) wr (w2.setCell ⟨b, 0, none⟩ (.slice ao' (os.length + 1) co')) := (m3.mono (fun k _ hk => .inr (.inl hk))).setCell (.inl (.inl rfl)) _
  have hnew : ∀ k, lfp b ao' aq es k → lfp b ao aq es k ∨ wr.heap.size ≤ k := fun k hk => by
    rcases hk with hk | hk | hk | hk
    · exact .inl (.inl hk)
    · rcases m4 k hk with h4 | h4
      · exact .inl (.inr (.inl h4))
      · exact .inr h4
    · exact .inl (.inr (.inr (.inl hk)))
    · exact .inl (.inr (.inr (.inr hk)))
  refine ⟨ao', co', w2, m1, ⟨_, (m3.cell (p := ⟨b, 0, none⟩) h1.blt h1.bo).trans h1.c0⟩, (m3.frozen (p := ⟨b, 0, none⟩) h1.blt h1.bo).trans (h1.freeB 0), ⟨h1.pushO m3 m2 m4, fun k hk => ?_, h3.trans (hM.below h3.size (fun k _ hk => h2 k hk))⟩, hM, hnew⟩
  rcases hnew k hk with h4 | h4
  · exact h2 k h4
  · exact Nat.le_trans h3.size h4
/-- One more list, which was made behind the world wr. -/
theorem RI.pushQ {w1 : World} (h : RI w wr b ao co aq cq os es) (hn : es.length < 1000) (hb : Below wr.heap.size wr w1) {a : Option Addr} {n c : Nat} {q : List Int} (hl : q.length = n) (hq : Qw w1 (a, c, q)) (hne : ∀ k, blk a = some k → wr.heap.size ≤ k) :
    ∃ aq' cq' w2, (∀ ty, (Builtin.append_ #[34, 34] ty #[.slice aq es.length cq, .slice (some ⟨w1.heap.size, 0, none⟩) 1 1]).run Try.prog (w1.alloc (.cells #[.slice a n c] 33)) = .ok (.slice aq' (es.length + 1) cq') w2) ∧ (∃ u, w2.cell? ⟨b, 1, none⟩ = some u) ∧ w2.frozen? ⟨b, 1, none⟩ = false ∧ RI w (w2.setCell ⟨b, 1, none⟩ (.slice aq' (es.length + 1) cq')) b ao co aq' cq' os (es ++ [(a, c, q)]) ∧ Mod (lfp b ao aq es) wr (w2.setCell ⟨b, 1, none⟩ (.slice aq' (es.length + 1) cq')) ∧ ∀ k, lfp b ao aq' (es ++ [(a, c, q)]) k → lfp b ao aq es k ∨ wr.heap.size ≤ k := by
  obtain ⟨h1, h2, h3⟩ := h
  have h1' := h1.below hb
  obtain ⟨aq', cq', w2, m1, m2, m3, m4⟩ := push_any (T := 34) Try.underlying34 infoL rfl h1'.rq (by unfold maxLen; omega) (by omega) [.slice a n c] rfl (by simp [Value.oneCell'])
  have hmm : Mod (fun k => blk aq = some k) wr w2 := (Mod.of_below _ hb).trans m3 (fun _ h => .inl h)
  have hM : Mod (lfp b ao aq es) wr (w2.setCell ⟨b, 1, none⟩ (.slice aq' (es.length + 1) cq')) := (hmm.mono (fun k _ hk => .inr (.inr (.inl hk)))).setCell (.inl (.inl rfl)) _
  have hsv : sC [((a, c, q) : Qe)] = [.slice a n c] := by simp [sC, sV, hl]
  have haq : ∀ k, blk aq = some k → k < wr.heap.size := fun k hk => h1.rq.lt k hk
  have m4' : ∀ k, blk aq' = some k → blk aq = some k ∨ wr.heap.size ≤ k := fun k hk => by
    rcases m4 k hk with h4 | h4
    · exact .inl h4
    · exact .inr (Nat.le_trans hb.size h4)
  have hLB := h1.pushQ hmm (e' := (a, c, q)) (aq' := aq') (cq' := cq') (by rw [hsv]; exact m2) m4' (hq.mod m3 (fun k hk e => by have := hne k hk; have := haq k e; omega)) (fun k hk => ⟨hne k hk, fun e => by
    rcases m4 k e with h4 | h4
    · have := hne k hk; have := haq k h4; omega
    · have := hq.lt k hk; omega⟩)
  have hnew : ∀ k, lfp b ao aq' (es ++ [(a, c, q)]) k → lfp b ao aq es k ∨ wr.heap.size ≤ k := fun k hk => by
    rcases hk with hk | hk | hk | ⟨i, hi, hk⟩
    · exact .inl (.inl hk)
    · exact .inl (.inr (.inl hk))
    · rcases m4' k hk with h4 | h4
      · exact .inl (.inr (.inr (.inl h4)))
      · exact .inr h4
    · simp only [List.length_append, List.length_singleton] at hi
      rw [eAt_app hi] at hk
      split at hk
      · exact .inr (hne k hk)
      · exact .inl (.inr (.inr (.inr ⟨i, by omega, hk⟩)))
  refine ⟨aq', cq', w2, m1, ⟨_, (m3.cell (p := ⟨b, 1, none⟩) h1'.blt h1'.bq).trans h1'.c1⟩, (m3.frozen (p := ⟨b, 1, none⟩) h1'.blt h1'.bq).trans (h1'.freeB 1), ⟨hLB, fun k hk => ?_, h3.trans (hM.below h3.size (fun k _ hk => h2 k hk))⟩, hM, hnew⟩
  rcases hnew k hk with h4 | h4
  · exact h2 k h4
  · exact Nat.le_trans h3.size h4
/-- The locks that the document makes. -/
theorem RI.new (w : World) : RI w (w.alloc (.cells #[.slice none 0 0, .slice none 0 0] 54)) w.heap.size none 0 none 0 [] [] := by
  refine ⟨⟨heap_alloc_new w _, Row.nil, Row.nil, (fun i hi => by simp at hi), (fun e => by cases e), (fun e => by cases e), (fun k hk => by cases hk), (fun i hi => by simp at hi), (fun i j hi => by simp at hi)⟩, fun k hk => ?_, below_al w _⟩
  rcases hk with hk | hk | hk | ⟨i, hi, hk⟩
  · rw [hk]; exact Nat.le_refl _
  · cases hk
  · cases hk
  · simp at hi
theorem RI.rk {qs : Qs} (h : RI w wr b ao co aq cq os es) (hq : qsOf es = qs) (h1 : qs.length = os.length) (h2 : os.length ≤ 8) : ∃ F, Rk wr b F os qs ∧ (∀ k, F k → w.heap.size ≤ k) :=
  ⟨lfp b ao aq es, ⟨h1, h2, ao, co, aq, cq, es, h.1, hq, fun _ h => h, h.1.lt⟩, h.2.1⟩
end

theorem rnew_bad {w : World} {n : Int} (h : n < 0 ∨ 8 < n) : Calls Try.prog 9 #[.int .i64 n] w fun e w' => e = .returned (.tuple #[.pointer none, .int .i64 1]) ∧ w' = w := by
  by_cases h1 : n < 0
  · clear h
    go_enter Try.func9, Try.ntmps9
    go_wp2_with fail
    go_ret2
    exact ⟨rfl, rfl⟩
  · have h2 : 8 < n := by omega
    have h1' : decide (n < 0) = false := by simpa using h1
    clear h h1
    go_enter Try.func9, Try.ntmps9
    go_wp2_with fail
    go_ret2
    exact ⟨rfl, rfl⟩

/-- What the document's New leaves. -/
def RNewOut (w : World) (n : Nat) (e : Ending) (w' : World) : Prop := Below w.heap.size w w' ∧ ∃ b F, e = .returned (.tuple #[.pointer (some ⟨b, 0, none⟩), .int .i64 0]) ∧ Rk w' b F (List.replicate n (-1)) (List.replicate n []) ∧ ∀ k, F k → w.heap.size ≤ k

set_option maxRecDepth 100000 in
set_option maxHeartbeats 2000000 in
theorem rnew_any {w : World} {n : Nat} (h8 : n ≤ 8) : Calls Try.prog 9 #[.int .i64 (n : Int)] w (RNewOut w n) := by
  have h1' : decide (8 < n) = false := by simpa using h8
  obtain ⟨w1, hw1⟩ : ∃ W, Hid (w.alloc (.cells #[.slice none 0 0, .slice none 0 0] 54) = W) := ⟨_, rfl⟩
  have HS := hd (RI.new w)
  rw [hw1.out] at HS
  obtain ⟨b, hb⟩ : ∃ b, Hid (w.heap.size = b) := ⟨_, rfl⟩
  have HS2 : Hid (∃ ao co aq cq es, RI w w1 b ao co aq cq (List.replicate 0 (-1)) es ∧ qsOf es = List.replicate 0 []) := hd ⟨none, 0, none, 0, [], by rw [← hb.out]; exact HS.out, rfl⟩
  clear HS
  go_enter Try.func9, Try.ntmps9
  go_upto_region 4 with fail
  rw [hw1.out, hb.out]
  clear hw1
  go_wp2_with fail
  go_loopg [5, 14, 15, 16, 17, 18, 19, 20, 21, 22, 23, 24, 25, 26, 27, 28, 29, 30, 31, 32, 33, 34, 35, 36] n (fun k v5 v14 v15 v16 v17 v18 v19 v20 v21 v22 v23 v24 v25 v26 v27 v28 v29 v30 v31 v32 v33 v34 v35 v36 wr => ∃ i : Nat, i + k = n ∧ v5 = .int .i64 (i : Int) ∧ Hid (∃ ao co aq cq es, RI w wr b ao co aq cq (List.replicate i (-1)) es ∧ qsOf es = List.replicate i []))
  case atStart => exact ⟨0, by omega, by go_num, HS2⟩
  case round =>
    obtain ⟨i, hik, rfl, HX⟩ := hrel
    clear HS2
    obtain ⟨ao, co, aq, cq, es, hI, hq⟩ := HX.out
    by_cases h0 : gk = 0
    · subst h0
      have hi : i = n := by omega
      subst hi
      have HE : Hid (RNewOut w i (.returned (.tuple #[.pointer (some ⟨b, 0, none⟩), .int .i64 0])) wr) := hd (by
        obtain ⟨F, h1, h2⟩ := hI.rk hq (by simp) (by simpa using h8)
        exact ⟨hI.2.2, b, F, rfl, h1, h2⟩)
      clear HX hI hq hik
      go_wp2_with fail
      go_ret2
      exact HE.out
    · have hlt : i < n := by omega
      have hol : (List.replicate i (-1 : Int)).length = i := by simp
      have hel : es.length = i := by rw [← qsOf_len, hq]; simp
      have c0 := hI.1.c0
      obtain ⟨ao', co', w2, A1, ⟨u1, z1⟩, z2, hI2, -, -⟩ := hI.pushO (by rw [hol]; omega) (-1)
      rw [hol] at c0 A1 hI2
      obtain ⟨w3, hw3⟩ : ∃ W, Hid (w2.setCell ⟨b, 0, none⟩ (.slice ao' (i + 1) co') = W) := ⟨_, rfl⟩
      rw [hw3.out] at hI2
      have c1 := hI2.1.c1
      obtain ⟨aq', cq', w4, A2, ⟨u2, z3⟩, z4, hI3, -, -⟩ := hI2.pushQ (by rw [hel]; omega) (below_same w3) (a := none) (n := 0) (c := 0) (q := []) rfl (Qw.none' w3) (fun k hk => by cases hk)
      rw [hel] at c1 A2 hI3
      have HE : Hid (∃ ao co aq cq es, RI w (w4.setCell ⟨b, 1, none⟩ (.slice aq' (i + 1) cq')) b ao co aq cq (List.replicate (i + 1) (-1)) es ∧ qsOf es = List.replicate (i + 1) []) := hd ⟨ao', co', aq', cq', _, by rw [List.replicate_succ']; exact hI3, by rw [qsOf_app, hq, List.replicate_succ']; rfl⟩
      replace A1 := hd A1
      replace A2 := hd A2
      clear HX hI hI2 hI3 hq hol hel h0
      go_upto_region 8 with (first | (at_builtin; refine wpList_append_run rfl _ _ _ rfl _ _ _ _ rfl rfl A1.out ?_; clear A1))
      rw [hw3.out]
      go_wp2_with (first | (at_builtin; refine wpList_append_run rfl _ _ _ rfl _ _ _ _ rfl rfl A2.out ?_; clear A2))
      go_roundg (gk - 1)
      case rel => exact ⟨i + 1, by omega, by go_num, HE⟩
      case measure => omega
end Go.Proofs.Ytdihbbpndijdoaa
