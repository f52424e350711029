/- The program's reader: what is wrong, the next number. -/
import Derived.Test.YtnkanaccacephaaSW3
namespace Go.Proofs.Ytnkanaccacephaa
open Go.RowKit

/-- The bytes that are copied into the array of eight. -/
def cut8 (bs : List Nat) (p k : Nat) : List Nat := (bs.drop p).take k ++ List.replicate (8 - k) 0
theorem cut8_len (bs : List Nat) (p k : Nat) (hk : k ≤ 8) (hl : p + k ≤ bs.length) : (cut8 bs p k).length = 8 := by
  unfold cut8
  rw [List.length_append, List.length_take, List.length_drop, List.length_replicate]
  omega
theorem cut8_at (bs : List Nat) (p k j : Nat) (hj : j < k) (hl : p + k ≤ bs.length) : (cut8 bs p k).getD j 0 = bs.getD (p + j) 0 := by
  unfold cut8
  rw [List.getD_eq_getElem?_getD, List.getElem?_append_left (by rw [List.length_take, List.length_drop]; omega), List.getElem?_take, if_pos hj, List.getElem?_drop, List.getD_eq_getElem?_getD]
theorem cut8_no (bs : List Nat) (p k j : Nat) (hj : k ≤ j) (hl : p + k ≤ bs.length) : (cut8 bs p k).getD j 0 = 0 := by
  have h1 : ((bs.drop p).take k).length = k := by rw [List.length_take, List.length_drop]; omega
  unfold cut8
  rw [List.getD_eq_getElem?_getD, List.getElem?_append_right (by omega), List.getElem?_replicate]
  split <;> rfl
theorem cut8_byte (bs : List Nat) (p k : Nat) (hb : Byte bs) (hl : p + k ≤ bs.length) : Byte (cut8 bs p k) := fun j => by
  by_cases hj : j < k
  · rw [cut8_at bs p k j hj hl]
    exact hb _
  · rw [cut8_no bs p k j (by omega) hl]
    omega
theorem cut8_sum (bs : List Nat) (p k : Nat) (hk : k ≤ 8) (hl : p + k ≤ bs.length) : sumB (cut8 bs p k) 0 8 = sumB bs p k := by
  have h1 := sum_zero (cut8 bs p k) 0 k (8 - k) (fun j hj => by rw [Nat.zero_add]; exact cut8_no bs p k j hj hl)
  rw [show k + (8 - k) = 8 by omega] at h1
  rw [h1]
  exact sum_ext _ _ 0 p k (fun j hj => by rw [Nat.zero_add]; exact cut8_at bs p k j hj hl)
theorem cut8_cells (L : List Nat) (h : L.length = 8) : (bCells L).toArray = #[.int .u8 (L.getD 0 0 : Nat), .int .u8 (L.getD 1 0 : Nat), .int .u8 (L.getD 2 0 : Nat), .int .u8 (L.getD 3 0 : Nat), .int .u8 (L.getD 4 0 : Nat), .int .u8 (L.getD 5 0 : Nat), .int .u8 (L.getD 6 0 : Nat), .int .u8 (L.getD 7 0 : Nat)] := by
  match L, h with
  | [a, b, c, d, e, f, g, i], _ => rfl

/-- What copy leaves in an array of eight. -/
theorem copy8 {w : World} {b o cap : Nat} {bs : List Nat} (p k : Nat) (hR : Rd w (some ⟨b, o, none⟩) (bCells bs)) (hk : k ≤ 8) (hl : p + k ≤ bs.length) {W : World} (hb : Below w.heap.size w W) {G : Nat} (hG : W.heap[G]? = some (.cells z8 56 (0, 0))) (hn : w.heap.size ≤ G) :
    ∃ W', (∀ ty, (Builtin.copy_ #[27, 27] ty #[.slice (some ⟨G, 0, none⟩) 8 8, .slice (some ⟨b, o + p, none⟩) k cap]).run Try.prog W = .ok (goInt k) W') ∧ W'.heap[G]? = some (.cells (bCells (cut8 bs p k)).toArray 56 (0, 0)) ∧ Below w.heap.size w W' := by
  obtain ⟨i, k1, k2, k3, k4⟩ := info_parts info_u8
  have hmin : Nat.min k 8 = k := Nat.min_eq_left hk
  have hc := fun ty => run_copy_sz (P := Try.prog) W 27 27 ty 5 1 G 0 8 8 ⟨b, o + p, none⟩ k cap z8 56 (bCells ((bs.drop p).take k)) Try.underlying27 (by rw [k1]; simp [k3]) hG
    (by rw [hmin, bCells_len, List.length_take, List.length_drop]; omega) (fun j v hj => by
      have hl2 := (List.getElem?_eq_some_iff.1 hj).1
      rw [bCells_len, List.length_take, List.length_drop] at hl2
      obtain ⟨b', o', e, h⟩ := (hR.below hb) (p + j) v (by
        rw [← hj]
        unfold bCells
        rw [List.map_take, List.map_drop, List.getElem?_take, if_pos (by omega), List.getElem?_drop])
      cases e
      rw [addr_add, Nat.add_assoc]
      exact h) (by rw [bCells_len, List.length_take, List.length_drop]; show 0 + min k (bs.length - p) ≤ 8; omega) (bCells_one _)
  rw [hmin] at hc
  refine ⟨_, hc, ?_, hb.trans ⟨rfl, rfl, rfl, by simp [World.setRow], fun x hx => setRow_other _ _ _ _ (by omega)⟩⟩
  rw [setRow_heap _ _ _ _ _ _ hG]
  have e : (z8.toList.take 0 ++ bCells ((bs.drop p).take k) ++ z8.toList.drop (0 + (bCells ((bs.drop p).take k)).length)) = bCells (cut8 bs p k) := by
    rw [List.take_zero, List.nil_append, Nat.zero_add]
    unfold cut8
    rw [← bCells_app]
    congr 1
    rw [bCells_len, List.length_take, List.length_drop, Nat.min_eq_left (by omega)]
    have : z8.toList = bCells (List.replicate 8 0) := rfl
    rw [this]
    unfold bCells
    rw [← List.map_drop, List.drop_replicate]
  rw [e]

section
variable {w : World} {r : Nat} {a : Option Addr} {cap : Nat} {bs : List Nat} {s : St}
set_option maxRecDepth 100000 in
theorem fail_any (h : RdAt w r a cap bs s) (x y : Int) (hx : x ≠ 0) :
    Calls Try.prog 36 #[.pointer (some ⟨r, 0, none⟩), .int .i64 x, .int .i64 y] w fun e w' => e = .returned (.tuple #[]) ∧ ROut w r a cap bs (failS s x y) w' := by
  by_cases h0 : s.e = 0
  · have hf := failed_any h false (by simp [h0])
    have HR : Hid (ROut w r a cap bs (failS s x y) ((w.setCell ⟨r, 3, none⟩ (.int .i64 x)).setCell ⟨r, 4, none⟩ (.int .i64 y))) := hd (by
      rw [failS, if_pos ⟨h0, hx⟩]
      exact ⟨(h.put 3 _ (s' := { s with e := x }) rfl h.nx h.fr).put 4 _ (s' := { s with e := x, at_ := y }) rfl h.nx h.fr, ((Mod.refl (fun k => k = r) w).setCell (.inl rfl) _).setCell (.inl rfl) _⟩)
    have k3 := h.cells.2.2.2.1
    have k4 := h.cells.2.2.2.2
    have f3 := h.free 3
    have f4 := h.free 4
    clear h h0 hx
    go_enter Try.func36, Try.ntmps36
    go_wp2_with (go_at_call 24; refine hf.mono ?_; rintro e w1 ⟨rfl, rfl⟩)
    refine bodyPost_end (results_none rfl _ _ _) rfl ?_
    exact ⟨rfl, HR.out⟩
  · have hf := failed_any h true (by simp [h0])
    have HR : Hid (ROut w r a cap bs (failS s x y) w) := hd (by rw [failS, if_neg (by simp [h0])]; exact ROut.refl h)
    clear h h0 hx
    go_enter Try.func36, Try.ntmps36
    go_wp2_with (go_at_call 24; refine hf.mono ?_; rintro e w1 ⟨rfl, rfl⟩)
    refine bodyPost_end (results_none rfl _ _ _) rfl ?_
    exact ⟨rfl, HR.out⟩

set_option maxRecDepth 100000 in
set_option maxHeartbeats 2000000 in
theorem number_ok (h : RdAt w r a cap bs s) (k : Nat) (hk : 1 ≤ k ∧ k ≤ 8) (h0 : s.e = 0) (hl : s.nx + k ≤ bs.length) :
    Calls Try.prog 35 #[.pointer (some ⟨r, 0, none⟩), .int .i64 k] w fun e w' => e = .returned (.int .u64 (sumB bs s.nx k : Nat)) ∧ ROut w r a cap bs { s with fr := s.nx, nx := s.nx + k } w' := by
  have hf := failed_any h false (by simp [h0])
  obtain ⟨b, o, rfl, -⟩ := h.at s.nx (by omega)
  have k0 := h.cells.1
  have k1 := h.cells.2.1
  have k2 := h.cells.2.2.1
  have f1 := h.free 1
  have f2 := h.free 2
  have HR : Hid (∀ W : World, Below w.heap.size w W → ROut w r (some ⟨b, o, none⟩) cap bs { s with fr := s.nx, nx := s.nx + k } ((W.setCell ⟨r, 1, none⟩ (.int .i64 s.nx)).setCell ⟨r, 2, none⟩ (.int .i64 (s.nx + k : Nat)))) := hd fun W hW => by
    have h' := h.below hW
    exact ⟨(h'.put 1 _ (s' := { s with fr := s.nx }) rfl h.nx h.nx).put 2 _ (s' := { s with fr := s.nx, nx := s.nx + k }) rfl hl h.nx, (((Mod.of_below (fun k => k = r) hW)).setCell (.inl rfl) _).setCell (.inl rfl) _⟩
  have hle := h.le
  have hcap := h.room
  have hrlt := hd h.lt
  have HJ : Hid (∀ W, _) := hd (joined_any (cut8 bs s.nx k) (cut8_byte bs s.nx k h.byte hl))
  rw [cut8_sum bs s.nx k hk.2 hl] at HJ
  have HL8 := hd (cut8_cells (cut8 bs s.nx k) (cut8_len bs s.nx k hk.2 hl))
  clear h h0
  obtain ⟨fr, nx, e, at_⟩ := s
  simp only at *
  obtain ⟨nk, hnk⟩ : ∃ nk : Nat, nx + k = nk := ⟨_, rfl⟩
  have enk : (nx : Int) + (k : Int) = (nk : Int) := by omega
  have hlk := hd hl
  rw [hnk] at HR hl
  have HN := hd hnk
  clear hnk
  generalize sumB bs nx k = S at *
  have d1 : decide ((bs.length : Int) - (nx : Int) < (k : Int)) = false := by simp; omega
  go_enter Try.func35, Try.ntmps35
  go_upto_region 3 with (go_at_call 24; refine hf.mono ?_; rintro e w1 ⟨rfl, rfl⟩)
  go_quiet (fail)
  go_upto_region 6 with fail
  have k0' : (w1.drewN nq).cell? ⟨r, 0, none⟩ = some (.slice (some ⟨b, o, none⟩) bs.length cap) := k0
  have k1' : (w1.drewN nq).cell? ⟨r, 1, none⟩ = some (.int .i64 fr) := k1
  have k2' : (w1.drewN nq).cell? ⟨r, 2, none⟩ = some (.int .i64 nx) := k2
  have f1' : (w1.drewN nq).frozen? ⟨r, 1, none⟩ = false := f1
  have f2' : (w1.drewN nq).frozen? ⟨r, 2, none⟩ = false := f2
  have HR1 := hd (HR.out (w1.drewN (nq + 1)) (below_draw w1 (nq + 1)))
  go_region
  obtain ⟨w2, hw2⟩ : ∃ W, Hid (((w1.drewN (nq + 1)).setCell ⟨r, 1, none⟩ (.int .i64 nx)).setCell ⟨r, 2, none⟩ (.int .i64 (nk : Nat)) = W) := ⟨_, rfl⟩
  rw [hw2.out] at HR1 ⊢
  clear hw2 HR k0 k1 k2 f1 f2 k0' k1' k2' f1' f2' d1
  go_upto_region 8 with fail
  have hal := below_al w2 (.cells z8 56)
  have hnew := heap_alloc_new w2 (.cells z8 56)
  have HR3 := hd (HR1.out.after hal)
  have h8 : Hid (∀ n, ∃ W', (∀ ty, (Builtin.copy_ #[27, 27] ty #[.slice (some ⟨w2.heap.size, 0, none⟩) 8 8, .slice (some ⟨b, o + nx, none⟩) k (cap - nx)]).run Try.prog ((w2.alloc (.cells z8 56)).drewN n) = .ok (goInt k) W') ∧ W'.heap[w2.heap.size]? = some (.cells (bCells (cut8 bs nx k)).toArray 56 (0, 0)) ∧ Below w2.heap.size w2 W') := hd fun n =>
    copy8 (w := w2) nx k HR1.out.1.rd hk.2 hlk.out (hal.trans (below_draw _ n |>.mono hal.size)) hnew (Nat.le_refl _)
  clear hal hnew
  unfold z8 at h8 HR3
  have sl := sl8_all
  have c0 := HR3.out.1.cells.1
  have c1 := HR3.out.1.cells.2.1
  have c2 := HR3.out.1.cells.2.2.1
  simp only at c0 c1 c2
  obtain ⟨w4, hcp, hg4, hb4⟩ := h8.out 1
  replace hcp : ∀ ty, (Builtin.copy_ #[27, 27] ty #[.slice (some ⟨w2.heap.size, 0, none⟩) 8 8, .slice (some ⟨b, o + nx, none⟩) k (cap - nx)]).run Try.prog ((w2.alloc (.cells #[.int .u8 0, .int .u8 0, .int .u8 0, .int .u8 0, .int .u8 0, .int .u8 0, .int .u8 0, .int .u8 0] 56)).drew) = .ok (goInt k) w4 := hcp
  replace hg4 := hd hg4
  replace hb4 := hd hb4
  clear h8
  have hkk : nk - nx = k := by have := HN.out; omega
  go_region
  have hgl := hg4.out
  rw [HL8.out] at hgl
  have HF4 := hd (HR1.out.after hb4.out)
  obtain ⟨G, hG⟩ : ∃ G, Hid (w2.heap.size = G) := ⟨_, rfl⟩
  rw [hG.out] at hgl ⊢
  clear hcp hg4 HR3 c0 c1 c2 hG HL8 hlk hkk
  have j0 := cell_of_row w4 G 0 _ _ _ hgl
  have j1 := cell_of_row w4 G 1 _ _ _ hgl
  have j2 := cell_of_row w4 G 2 _ _ _ hgl
  have j3 := cell_of_row w4 G 3 _ _ _ hgl
  have j4 := cell_of_row w4 G 4 _ _ _ hgl
  have j5 := cell_of_row w4 G 5 _ _ _ hgl
  have j6 := cell_of_row w4 G 6 _ _ _ hgl
  have j7 := cell_of_row w4 G 7 _ _ _ hgl
  have hj := HJ.out w4
  clear hgl HJ
  generalize (cut8 bs nx k).getD 0 0 = y0 at *
  generalize (cut8 bs nx k).getD 1 0 = y1 at *
  generalize (cut8 bs nx k).getD 2 0 = y2 at *
  generalize (cut8 bs nx k).getD 3 0 = y3 at *
  generalize (cut8 bs nx k).getD 4 0 = y4 at *
  generalize (cut8 bs nx k).getD 5 0 = y5 at *
  generalize (cut8 bs nx k).getD 6 0 = y6 at *
  generalize (cut8 bs nx k).getD 7 0 = y7 at *
  simp only [List.getElem?_toArray, List.getElem?_cons_zero, List.getElem?_cons_succ] at j0 j1 j2 j3 j4 j5 j6 j7
  go_wp2_with (go_at_call 37; refine hj.mono ?_; rintro e w5 ⟨rfl, b5⟩)
  go_ret
  rw [HN.out]
  exact ⟨rfl, HF4.out.after b5⟩

set_option maxRecDepth 100000 in
set_option maxHeartbeats 1000000 in
theorem number_no (h : RdAt w r a cap bs s) (k : Nat) (h0 : s.e ≠ 0) :
    Calls Try.prog 35 #[.pointer (some ⟨r, 0, none⟩), .int .i64 k] w fun e w' => e = .returned (.int .u64 0) ∧ w' = w := by
  have hf := failed_any h true (by simp [h0])
  clear h h0
  go_enter Try.func35, Try.ntmps35
  go_wp2_with (go_at_call 24; refine hf.mono ?_; rintro e w1 ⟨rfl, rfl⟩)
  go_ret
  exact ⟨rfl, rfl⟩

set_option maxRecDepth 100000 in
set_option maxHeartbeats 1000000 in
theorem number_short (h : RdAt w r a cap bs s) (k : Nat) (hk : k ≤ 8) (h0 : s.e = 0) (hl : bs.length < s.nx + k) :
    Calls Try.prog 35 #[.pointer (some ⟨r, 0, none⟩), .int .i64 k] w fun e w' => e = .returned (.int .u64 0) ∧ ROut w r a cap bs { s with e := 5, at_ := bs.length } w' := by
  have hf := failed_any h false (by simp [h0])
  have k0 := h.cells.1
  have k2 := h.cells.2.2.1
  have hle := h.le
  have hnx := h.nx
  have d1 : (bs.length : Int) - (s.nx : Int) < (k : Int) := by omega
  have HF : Hid (∀ W : World, Below w.heap.size w W → Calls Try.prog 36 #[.pointer (some ⟨r, 0, none⟩), .int .i64 5, .int .i64 bs.length] W fun e w' => e = .returned (.tuple #[]) ∧ ROut w r a cap bs { s with e := 5, at_ := bs.length } w') := hd fun W hW =>
    (fail_any (h.below hW) 5 bs.length (by decide)).mono fun e w' ⟨he, ho⟩ => ⟨he, by
      rw [failS, if_pos ⟨h0, by decide⟩] at ho
      exact ⟨ho.1, (Mod.of_below _ hW).trans ho.2 (fun _ h => .inl h)⟩⟩
  clear h h0
  obtain ⟨fr, nx, e, at_⟩ := s
  simp only at *
  go_enter Try.func35, Try.ntmps35
  go_upto_region 3 with (go_at_call 24; refine hf.mono ?_; rintro e w1 ⟨rfl, rfl⟩)
  go_quiet (fail)
  have HF1 := HF.out (w1.drewN nq) (below_draw w1 nq)
  have k0' : (w1.drewN nq).cell? ⟨r, 0, none⟩ = some (.slice a bs.length cap) := k0
  go_wp2_with (go_at_call 36; refine HF1.mono ?_; rintro e w2 ⟨rfl, ho⟩)
  go_ret
  exact ⟨rfl, ho⟩

theorem num_any (h : RdAt w r a cap bs s) (k : Nat) (hk : 1 ≤ k ∧ k ≤ 8) :
    Calls Try.prog 35 #[.pointer (some ⟨r, 0, none⟩), .int .i64 k] w fun e w' => e = .returned (.int .u64 ((numS bs k s).1 : Nat)) ∧ ROut w r a cap bs (numS bs k s).2 w' := by
  unfold numS
  by_cases h0 : s.e = 0
  · rw [if_neg (by simp [h0])]
    by_cases hl : bs.length < s.nx + k
    · rw [if_pos hl]
      exact number_short h k hk.2 h0 hl
    · rw [if_neg hl]
      exact number_ok h k hk h0 (by omega)
  · rw [if_pos h0]
    exact (number_no h k h0).mono fun e w' ⟨he, hw⟩ => ⟨he, by subst hw; exact ROut.refl h⟩
end
end Go.Proofs.Ytnkanaccacephaa
