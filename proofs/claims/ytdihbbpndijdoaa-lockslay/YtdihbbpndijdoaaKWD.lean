/- Repeat, New. -/
import Derived.Test.YtdihbbpndijdoaaKWC
namespace Go.Proofs.Ytdihbbpndijdoaa
open Go.RowKit Go.Maps

set_option maxRecDepth 100000 in
set_option maxHeartbeats 2000000 in
theorem mul64_any (n : Nat) (h : n ≤ 8) (w : World) : Calls Try.prog 40 #[.int .u64 1, .int .u64 (n : Int)] w fun e w' => e = .returned (.tuple #[.int .u64 0, .int .u64 (n : Int)]) ∧ w' = w := by
  rcases (by omega : n = 0 ∨ n = 1 ∨ n = 2 ∨ n = 3 ∨ n = 4 ∨ n = 5 ∨ n = 6 ∨ n = 7 ∨ n = 8) with rfl | rfl | rfl | rfl | rfl | rfl | rfl | rfl | rfl
  all_goals clear h
  all_goals go_enter Try.func40, Try.ntmps40
  all_goals go_wp2
  all_goals go_ret2
  all_goals exact ⟨rfl, rfl⟩
theorem mul_any (n : Nat) (h : n ≤ 8) (w : World) : Calls Try.prog 31 #[.int .u64 1, .int .u64 (n : Int)] w fun e w' => e = .returned (.tuple #[.int .u64 0, .int .u64 (n : Int)]) ∧ w' = w := by
  have hm := mul64_any n h w
  go_enter Try.func31, Try.ntmps31
  go_wp2_with (first | (go_at_call 40; refine hm.mono ?_; rintro e3 w3 ⟨rfl, rfl⟩))
  go_ret2
  exact ⟨rfl, rfl⟩

/-- copy into a part of a row. -/
theorem copy_part {w : World} {G n : Nat} {l : List Int} (h : Row w 3 1 (some ⟨G, 0, none⟩) n n (iC l)) (o dLen dCap sLen sCap : Nat) (g2 o2 : Nat) (xs : List Int) (hx : xs.length = Nat.min sLen dLen) (hs : Rd w (some ⟨g2, o2, none⟩) (iC xs)) (hfit : o + xs.length ≤ n) :
    ∃ w', (∀ ty, (Builtin.copy_ #[33, 33] ty #[.slice (some ⟨G, o, none⟩) dLen dCap, .slice (some ⟨g2, o2, none⟩) sLen sCap]).run Try.prog w = .ok (.int .i64 (xs.length : Int)) w') ∧ Row w' 3 1 (some ⟨G, 0, none⟩) n n (iC (l.take o ++ xs ++ l.drop (o + xs.length))) ∧ Mod (fun k => k = G) w w' := by
  have hll := h.len
  rw [iC_len] at hll
  obtain ⟨h1, h2, h3, ⟨h4, _⟩ | ⟨g', cur, h4, h5, h6, h7⟩⟩ := h
  · cases h4
  · cases h4
    rw [Nat.mul_one] at h6 h7
    have hc := fun ty => run_copy_sz (P := Try.prog) w 33 33 ty 3 1 G o dLen dCap ⟨g2, o2, none⟩ sLen sCap cur 3 (iC xs) Try.underlying33 (by kernel_rfl) h5 (by rw [iC_len, hx]) (fun j v hj => by
      obtain ⟨b', o', e1, e2⟩ := hs j v hj
      cases e1
      rw [addr_add]
      exact e2) (by rw [iC_len]; omega) (iC_one _)
    rw [← hx] at hc
    refine ⟨_, hc, ?_, (Mod.refl (fun k => k = G) w).setRow (.inl rfl) _⟩
    have hio : (iC xs).length = xs.length := by rw [iC_len]; omega
    have ho : (cur.toList.take o).length = o := by rw [List.length_take, Array.length_toList]; omega
    refine ⟨by rw [iC_len, List.length_append, List.length_append, List.length_take, List.length_drop]; omega, Nat.le_refl _, h3, .inr ⟨G, _, rfl, setRow_heap _ _ _ _ _ _ h5, ?_, ?_⟩⟩
    · simp only [List.size_toArray, List.length_append, List.length_drop, Array.length_toList, hio, ho]
      omega
    · rw [Nat.mul_one]
      show (cur.toList.take o ++ iC xs ++ cur.toList.drop (o + (iC xs).length)).take n = _
      rw [iC_app, iC_app, ← iC_take, ← iC_drop, ← h7, hio, List.take_take, List.drop_take, Nat.min_eq_left (by omega : o ≤ n), List.take_append, List.take_of_length_le (by rw [List.length_append]; omega)]
      congr 2
      rw [List.length_append]
      omega

theorem rep_join {k m : Nat} {l : List Int} (hk : l.take k = List.replicate k (-1)) : (l.take k ++ List.replicate m (-1) ++ l.drop (k + m)).take (k + m) = List.replicate (k + m) (-1) := by
  rw [hk, List.replicate_append_replicate, List.take_append_of_le_length (by simp), List.take_of_length_le (by simp)]

set_option maxRecDepth 100000 in
set_option maxHeartbeats 2000000 in
theorem repeat_any {w : World} {gx n : Nat} (hx : w.cell? ⟨gx, 0, none⟩ = some (.int .i64 (-1))) (h8 : n ≤ 8) :
    Calls Try.prog 21 #[.slice (some ⟨gx, 0, none⟩) 1 1, .int .i64 (n : Int)] w fun e w' => ∃ a c, e = .returned (.slice a n c) ∧ Rd w' a (iC (List.replicate n (-1))) ∧ Below w.heap.size w w' := by
  have hmu := mul_any n h8 w
  have hmk := make_eq 33 3 _ 1 8 Try.underlying33 infoN n (by omega) (by unfold maxLen; omega) w
  obtain ⟨w1, hw1⟩ : ∃ W, Hid (w.alloc (.cells (madeCells (Value.int .i64 0).cells (n * 1)) 3) = W) := ⟨_, rfl⟩
  rw [hw1.out] at hmk
  have hB1 : Below w.heap.size w w1 := by rw [← hw1.out]; exact below_al w _
  have hh := heap_alloc_new w (.cells (madeCells (Value.int .i64 0).cells (n * 1)) 3)
  rw [hw1.out] at hh
  have hms : (madeCells (Value.int .i64 0).cells (n * 1)).size = n * 1 := by simp [madeCells]
  have hrow : Row w1 3 1 (some ⟨w.heap.size, 0, none⟩) n n (iC (List.replicate n 0)) := by
    have hr := row_new (size := 1) (n := n) hh hms (by unfold maxLen; omega)
    have e : (madeCells (Value.int .i64 0).cells (n * 1)).toList = iC (List.replicate n 0) := by
      apply List.ext_getElem?
      intro i
      unfold madeCells
      by_cases h : i < n
      · simp [iC, Value.cells, h, Nat.mod_one]
      · simp [iC, Value.cells, h, Nat.mod_one]
    rwa [e] at hr
  have hxl : gx < w.heap.size := World.block_lt_of_cell? w _ hx
  have hx1 : Rd w1 (some ⟨gx, 0, none⟩) (iC [-1]) := fun j u hj => by
    have : j = 0 := by
      rcases j with _ | j
      · rfl
      · simp [iC] at hj
    subst this
    simp [iC] at hj
    subst hj
    exact ⟨gx, 0, rfl, (hB1.cell (p := ⟨gx, 0, none⟩) hxl).trans hx⟩
  obtain ⟨G, hG⟩ : ∃ G, Hid (w.heap.size = G) := ⟨_, rfl⟩
  rw [hG.out] at hmk hrow
  by_cases h0 : n = 0
  · subst h0
    have hcp := fun ty => run_copy_zero (P := Try.prog) w1 33 33 ty 3 1 (some ⟨G, 0, none⟩) (some ⟨gx, 0, none⟩) 0 0 1 1 Try.underlying33 (by kernel_rfl) (by rfl)
    have hcp : ∀ ty, (Builtin.copy_ #[33, 33] ty #[.slice (some ⟨G, 0, none⟩) 0 0, .slice (some ⟨gx, 0, none⟩) 1 1]).run Try.prog w1 = .ok (.int .i64 0) w1 := hcp
    have hmk : (Instr.makeSlice 33 (.int .i64 0) (.int .i64 0)).run Try.prog w = .ok (.slice (some ⟨G, 0, none⟩) 0 0) w1 := hmk
    have HE := hd hB1
    clear hrow hx1 hms hh hB1 hw1
    go_enter Try.func21, Try.ntmps21
    go_wp2_with (first | (go_at_call 31; refine hmu.mono ?_; rintro e3 w3 ⟨rfl, rfl⟩))
    go_loopg [8, 34, 35, 36, 37, 38, 39, 40, 41, 42, 43, 44, 45, 46] 0 (fun j v8 v34 v35 v36 v37 v38 v39 v40 v41 v42 v43 v44 v45 v46 wr => v8 = .int .i64 0 ∧ wr = w1)
    case atStart => exact ⟨rfl, rfl⟩
    case round =>
      obtain ⟨rfl, rfl⟩ := hrel
      go_wp2_with fail
      go_ret
      exact ⟨_, _, rfl, fun j u hj => by simp [iC] at hj, HE.out⟩
  · obtain ⟨w2, hcp, hr2, hm2⟩ := copy_part hrow 0 n n 1 1 gx 0 [-1] (show [(-1 : Int)].length = Nat.min 1 n from (Nat.min_eq_left (show 1 ≤ n by omega)).symm) hx1 (by simp; omega)
    have hcp : ∀ ty, (Builtin.copy_ #[33, 33] ty #[.slice (some ⟨G, 0, none⟩) n n, .slice (some ⟨gx, 0, none⟩) 1 1]).run Try.prog w1 = .ok (.int .i64 1) w2 := hcp
    have HB2 : Hid (Below w.heap.size w w2) := hd (hB1.trans (hm2.below hB1.size (fun k _ e => by rw [e, hG.out]; exact Nat.le_refl _)))
    have HR2 : Hid (∃ l, Row w2 3 1 (some ⟨G, 0, none⟩) n n (iC l) ∧ l.take 1 = List.replicate 1 (-1)) := hd ⟨_, hr2, by simp⟩
    clear hrow hx1 hms hh hB1 hw1 hr2 hm2
    go_enter Try.func21, Try.ntmps21
    go_wp2_with (first | (go_at_call 31; refine hmu.mono ?_; rintro e3 w3 ⟨rfl, rfl⟩))
    go_loopg [8, 34, 35, 36, 37, 38, 39, 40, 41, 42, 43, 44, 45, 46] n (fun j v8 v34 v35 v36 v37 v38 v39 v40 v41 v42 v43 v44 v45 v46 wr => ∃ k : Nat, n ≤ k + j ∧ k ≤ n ∧ 0 < k ∧ v8 = .int .i64 (k : Int) ∧ Hid (Below w3.heap.size w3 wr ∧ ∃ l, Row wr 3 1 (some ⟨G, 0, none⟩) n n (iC l) ∧ l.take k = List.replicate k (-1)))
    case atStart => exact ⟨1, by omega, by omega, by omega, by go_num, hd ⟨HB2.out, HR2.out⟩⟩
    case round =>
      obtain ⟨k, hkj, hkn, hk0, rfl, HX⟩ := hrel
      obtain ⟨hBr, l, hRr, hlr⟩ := HX.out
      clear HB2 HR2 hcp hmk hmu
      by_cases hlt : k < n
      · have hd1 : Below wr.heap.size wr wr.drew := (Below.refl _ wr).drew
        have hM0 : Nat.min k (n - k) ≤ n - k := Nat.min_le_right _ _
        have hM1 : Nat.min k (n - k) ≤ k := Nat.min_le_left _ _
        have hM2 : 0 < Nat.min k (n - k) := by rw [Nat.lt_min]; omega
        obtain ⟨M, hM⟩ : ∃ M, Hid (Nat.min k (n - k) = M) := ⟨_, rfl⟩
        rw [hM.out] at hM0 hM1 hM2
        have hsrc : Rd wr.drew (some ⟨G, 0, none⟩) (iC (List.replicate M (-1))) := by
          have h1 := (hRr.below hd1).rd
          have e : List.replicate M (-1 : Int) = l.take M := by
            have : (l.take k).take M = (List.replicate k (-1 : Int)).take M := by rw [hlr]
            rw [List.take_take, Nat.min_eq_left hM1, List.take_replicate, Nat.min_eq_left hM1] at this
            exact this.symm
          rw [e, ← iC_take]
          intro j u hj
          rw [List.getElem?_take] at hj
          split at hj
          · exact h1 j u hj
          · cases hj
        obtain ⟨w4, hcp, hr4, hm4⟩ := copy_part (hRr.below hd1) k (n - k) (n - k) k n G 0 (List.replicate M (-1)) (by rw [List.length_replicate]; exact hM.out.symm) hsrc (by rw [List.length_replicate]; omega)
        rw [List.length_replicate] at hcp hr4
        have hnk : ¬ n = k := by omega
        have HE : Hid (Below w3.heap.size w3 w4 ∧ ∃ l, Row w4 3 1 (some ⟨G, 0, none⟩) n n (iC l) ∧ l.take (k + M) = List.replicate (k + M) (-1)) := hd (by
          have b1 := hBr.trans (hd1.mono hBr.size)
          exact ⟨b1.trans (hm4.below b1.size (fun j _ e => by rw [e, ← hG.out]; exact Nat.le_refl _)), _, hr4, rep_join hlr⟩)
        clear HX hBr hRr hlr hr4 hm4 hsrc hd1
        go_upto_region 9 with fail
        go_region
        all_goals go_wp2_with fail
        all_goals go_roundg (n - (k + M))
        all_goals first | exact ⟨k + M, by omega, by omega, by omega, by go_num, HE⟩ | omega
      · obtain rfl : k = n := by omega
        have HE : Hid (Rd wr (some ⟨G, 0, none⟩) (iC (List.replicate k (-1))) ∧ Below w3.heap.size w3 wr) := hd (by
          refine ⟨?_, hBr⟩
          have hl := hRr.len
          rw [iC_len] at hl
          rw [← hlr, List.take_of_length_le (by omega)]
          exact hRr.rd)
        clear HX hBr hRr hlr hlt
        go_wp2_with fail
        go_ret
        exact ⟨_, _, rfl, HE.out⟩
end Go.Proofs.Ytdihbbpndijdoaa
