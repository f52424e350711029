/- The program's reader: how many steps; a step. -/
import Derived.Test.YtnkanaccacephaaSW5
namespace Go.Proofs.Ytnkanaccacephaa
open Go.RowKit

theorem fail_ok {s : St} {y : Int} : failS s 0 y = s := failS_ok
theorem num_small {bs : List Nat} {s : St} (hb : Byte bs) (k : Nat) (hk : k ≤ 4) : (numS bs k s).1 < 4294967296 := by
  unfold numS
  split
  · simp
  · split
    · simp
    · have h1 := sumB_lt bs s.nx hb k
      have h2 : 2 ^ (8 * k) ≤ 2 ^ 32 := Nat.pow_le_pow_right (by decide) (by omega)
      have h3 : (2 : Nat) ^ 32 = 4294967296 := by decide
      simp only
      omega
theorem num_64 {bs : List Nat} {s : St} (hb : Byte bs) : (numS bs 8 s).1 < 18446744073709551616 := by
  unfold numS
  split
  · simp
  · split
    · simp
    · exact sumB_lt bs s.nx hb 8
theorem chk_okE (bs : List Nat) (k : Nat) (s : St) : chkS bs k okE s = numS bs k s := by
  unfold chkS okE
  rw [failS_ok]

/-- A step that was read. -/
def stR (bs : List Nat) (s : St) : Stp × St :=
  (⟨((numS bs 1 s).1 : Nat), ((numS bs 4 (chkS bs 1 kindE s).2).1 : Nat), if (numS bs 1 s).1 = 2 then wrap64 ((numS bs 8 (numS bs 4 (chkS bs 1 kindE s).2).2).1 : Nat) else 0⟩,
    if (numS bs 1 s).1 = 2 then (numS bs 8 (numS bs 4 (chkS bs 1 kindE s).2).2).2 else (numS bs 4 (chkS bs 1 kindE s).2).2)

theorem Stage.step {α : Type} {whole : Res α} {s : St} {bs : List Nat} {g : Stp → Par α} (h : Stage whole s (bind_ stepP g bs s.nx)) : Stage whole (stR bs s).2 (g (stR bs s).1 bs (stR bs s).2.nx) := by
  have h1 : Stage whole s (bind_ (numP 1 kindE) (fun k => bind_ (numP 4 okE) (fun n => bind_ (vP k n) g)) bs s.nx) := by
    have e : bind_ stepP g = bind_ (numP 1 kindE) (fun k => bind_ (numP 4 okE) (fun n => bind_ (vP k n) g)) := by
      unfold stepP
      rw [bind_assoc]
      congr 1
      funext k
      rw [bind_assoc]
    rw [← e]
    exact h
  have h2 := Stage.chk (Stage.chk h1)
  rw [chk_okE] at h2
  unfold stR
  rw [show (chkS bs 1 kindE s).1 = (numS bs 1 s).1 from rfl] at h2
  simp only
  by_cases hk : (numS bs 1 s).1 = 2
  · rw [if_pos hk, if_pos hk]
    unfold vP at h2
    rw [if_pos hk, bind_assoc] at h2
    have h3 := Stage.chk h2
    rw [chk_okE] at h3
    exact h3
  · rw [if_neg hk, if_neg hk]
    unfold vP at h2
    rw [if_neg hk] at h2
    exact h2

section
variable {w : World} {r : Nat} {a : Option Addr} {cap : Nat} {bs : List Nat} {s : St}
set_option maxRecDepth 100000 in
set_option maxHeartbeats 1000000 in
theorem count_any (h : RdAt w r a cap bs s) :
    Calls Try.prog 32 #[.pointer (some ⟨r, 0, none⟩)] w fun e w' => e = .returned (.int .i64 ((chkS bs 2 manyE s).1 : Nat)) ∧ ROut w r a cap bs (chkS bs 2 manyE s).2 w' := by
  have hn := num_any h 2 ⟨by omega, by omega⟩
  have hl := num_small (s := s) h.byte 2 (by omega)
  unfold chkS
  simp only
  have HE : Hid (manyE (numS bs 2 s).1 = if ((numS bs 2 s).1 : Int) < 0 then 3 else if 1024 < ((numS bs 2 s).1 : Int) then 3 else 0) := hd rfl
  generalize manyE (numS bs 2 s).1 = E at *
  generalize (numS bs 2 s).1 = v at *
  generalize (numS bs 2 s).2 = s1 at *
  clear h
  have ev : IntKind.i64.wrap (v : Int) = (v : Int) := by rw [IntKind.wrap_i64]; omega
  by_cases hv : 1024 < v
  · obtain rfl : E = 3 := by rw [HE.out, if_neg (by omega), if_pos (by omega)]
    have hv' : (1024 : Int) < (v : Int) := by omega
    have HF : Hid (∀ W1, ROut w r a cap bs s1 W1 → Calls Try.prog 36 #[.pointer (some ⟨r, 0, none⟩), .int .i64 3, .int .i64 s1.fr] W1 fun e w' => e = .returned (.tuple #[]) ∧ ROut w r a cap bs (failS s1 3 s1.fr) w') := hd fun W1 o1 => (fail_any o1.1 3 s1.fr (by decide)).mono fun e w' ⟨he, ho⟩ => ⟨he, o1.trans ho⟩
    clear HE
    go_enter Try.func32, Try.ntmps32
    go_upto_region 2 with (go_at_call 35; refine hn.mono ?_; rintro e w1 ⟨rfl, ho⟩)
    have k1 := ho.1.cells.2.1
    have hf1 := HF.out w1 ho
    clear hn ho HF
    go_wp2_with (go_at_call 36; refine hf1.mono ?_; rintro e w2 ⟨rfl, ho2⟩; replace ho2 := hd ho2)
    go_ret
    exact ⟨rfl, ho2.out⟩
  · obtain rfl : E = 0 := by rw [HE.out, if_neg (by omega), if_neg (by omega)]
    have hv' : decide ((1024 : Int) < (v : Int)) = false := by simp; omega
    rw [failS_ok]
    clear HE
    go_enter Try.func32, Try.ntmps32
    go_upto_region 2 with (go_at_call 35; refine hn.mono ?_; rintro e w1 ⟨rfl, ho⟩; replace ho := hd ho)
    clear hn
    go_wp2_with fail
    go_ret
    exact ⟨rfl, ho.out⟩
end

theorem three_cells {W : World} {G : Nat} {x0 x1 x2 v0 v1 v2 : Value} {T : TypeId} (h : W.heap[G]? = some (.cells #[x0, x1, x2] T (0, 0))) :
    (((W.setCell ⟨G, 0, none⟩ v0).setCell ⟨G, 1, none⟩ v1).setCell ⟨G, 2, none⟩ v2).heap[G]? = some (.cells #[v0, v1, v2] T (0, 0)) ∧ Mod (fun k => k = G) W (((W.setCell ⟨G, 0, none⟩ v0).setCell ⟨G, 1, none⟩ v1).setCell ⟨G, 2, none⟩ v2) := by
  refine ⟨?_, (((Mod.refl (fun k => k = G) W).setCell (.inl rfl) _).setCell (.inl rfl) _).setCell (.inl rfl) _⟩
  have h0 := heap_setCell_same W G 0 _ _ v0 h
  simp only [List.setIfInBounds_toArray, List.set_cons_zero] at h0
  have h1 := heap_setCell_same _ G 1 _ _ v1 h0
  simp only [List.setIfInBounds_toArray, List.set_cons_zero, List.set_cons_succ] at h1
  have h2 := heap_setCell_same _ G 2 _ _ v2 h1
  simp only [List.setIfInBounds_toArray, List.set_cons_zero, List.set_cons_succ] at h2
  exact h2

/-- A step that is being read: its own cells at G1, the answer's at G0, the reader. -/
structure StB (w : World) (r : Nat) (a : Option Addr) (cap : Nat) (bs : List Nat) (s : St) (W : World) (G0 G1 : Nat) (x y z : Int) : Prop where
  out : ROut w r a cap bs s W
  b0 : W.heap[G0]? = some (.cells #[.int .i64 0, .int .i64 0, .int .i64 0] 38 (0, 0))
  b1 : W.heap[G1]? = some (.cells #[.int .i64 x, .int .i64 y, .int .i64 z] 38 (0, 0))
  n0 : w.heap.size ≤ G0
  n1 : G0 < G1

section
variable {w W W' : World} {r : Nat} {a : Option Addr} {cap : Nat} {bs : List Nat} {s s' s0 : St} {G0 G1 : Nat} {x y z : Int}
theorem StB.step (h : StB w r a cap bs s W G0 G1 x y z) (h0 : r < w.heap.size) (o : ROut W r a cap bs s' W') : StB w r a cap bs s' W' G0 G1 x y z := by
  have := h.n0
  have := h.n1
  exact ⟨h.out.trans o, by rw [o.2.block G0 (Array.getElem?_eq_some_iff.1 h.b0).1 (by omega)]; exact h.b0, by rw [o.2.block G1 (Array.getElem?_eq_some_iff.1 h.b1).1 (by omega)]; exact h.b1, h.n0, h.n1⟩
theorem StB.put (h : StB w r a cap bs s W G0 G1 x y z) (h0 : RdAt w r a cap bs s0) (i : Nat) (v : Value) {x' y' z' : Int} (he : (#[.int .i64 x, .int .i64 y, .int .i64 z] : Array Value).setIfInBounds i v = #[.int .i64 x', .int .i64 y', .int .i64 z']) : StB w r a cap bs s (W.setCell ⟨G1, i, none⟩ v) G0 G1 x' y' z' := by
  have := h.n0
  have := h.n1
  exact ⟨h.out.put h0 (by omega) i v, by rw [Below.heap_setCell _ _ _ _ (by simp only; omega)]; exact h.b0, by rw [heap_setCell_same W G1 i _ _ v h.b1, he], h.n0, h.n1⟩
theorem StB.cells (h : StB w r a cap bs s W G0 G1 x y z) : W.cell? ⟨G1, 0, none⟩ = some (.int .i64 x) ∧ W.cell? ⟨G1, 1, none⟩ = some (.int .i64 y) ∧ W.cell? ⟨G1, 2, none⟩ = some (.int .i64 z) :=
  ⟨cell_of_row _ _ _ _ _ _ h.b1, cell_of_row _ _ _ _ _ _ h.b1, cell_of_row _ _ _ _ _ _ h.b1⟩
theorem StB.cells0 (h : StB w r a cap bs s W G0 G1 x y z) : W.cell? ⟨G0, 0, none⟩ = some (.int .i64 0) ∧ W.cell? ⟨G0, 1, none⟩ = some (.int .i64 0) ∧ W.cell? ⟨G0, 2, none⟩ = some (.int .i64 0) :=
  ⟨cell_of_row _ _ _ _ _ _ h.b0, cell_of_row _ _ _ _ _ _ h.b0, cell_of_row _ _ _ _ _ _ h.b0⟩
theorem StB.free (h : StB w r a cap bs s W G0 G1 x y z) (i : Nat) : W.frozen? ⟨G1, i, none⟩ = false := by simp [World.frozen?, h.b1]
theorem StB.free0 (h : StB w r a cap bs s W G0 G1 x y z) (i : Nat) : W.frozen? ⟨G0, i, none⟩ = false := by simp [World.frozen?, h.b0]
end

section
variable {w : World} {r : Nat} {a : Option Addr} {cap : Nat} {bs : List Nat} {s : St}
set_option maxRecDepth 100000 in
set_option maxHeartbeats 2000000 in
theorem step_any (h : RdAt w r a cap bs s) :
    Calls Try.prog 33 #[.pointer (some ⟨r, 0, none⟩)] w fun e w' => e = .returned (stV (stR bs s).1) ∧ ROut w r a cap bs (stR bs s).2 w' := by
  have hl1 := num_small (s := s) h.byte 1 (by omega)
  have hl4 := num_small (s := (chkS bs 1 kindE s).2) h.byte 4 (by omega)
  have hl8 := num_64 (s := (numS bs 4 (chkS bs 1 kindE s).2).2) h.byte
  have N1 : Hid (∀ W, RdAt W r a cap bs s → _) := hd (fun W hW => num_any (w := W) hW 1 ⟨by omega, by omega⟩)
  have N4 : Hid (∀ W, RdAt W r a cap bs (chkS bs 1 kindE s).2 → _) := hd (fun W hW => num_any (w := W) hW 4 ⟨by omega, by omega⟩)
  have N8 : Hid (∀ W, RdAt W r a cap bs (numS bs 4 (chkS bs 1 kindE s).2).2 → _) := hd (fun W hW => num_any (w := W) hW 8 ⟨by omega, by omega⟩)
  have HK : Hid ((chkS bs 1 kindE s).2 = failS (numS bs 1 s).2 (kindE (numS bs 1 s).1) (numS bs 1 s).2.fr) := hd rfl
  have HF : Hid (∀ W (x : Int) (s1 : St), x ≠ 0 → RdAt W r a cap bs s1 → _) := hd (fun W x s1 hx hW => fail_any (w := W) hW x s1.fr hx)
  unfold stR stV
  simp only
  have hr := hd h.lt
  replace h := hd h
  generalize (chkS bs 1 kindE s).2 = s2 at *
  generalize (numS bs 1 s).2 = s1 at *
  generalize (numS bs 1 s).1 = k at *
  generalize (numS bs 4 s2).1 = n at *
  generalize (numS bs 4 s2).2 = s3 at *
  generalize (numS bs 8 s3).1 = v at *
  generalize (numS bs 8 s3).2 = s4 at *
  obtain ⟨Z, hZ⟩ : ∃ Z : Int, Hid (Z = if k = 2 then wrap64 (v : Nat) else 0) := ⟨_, hd rfl⟩
  obtain ⟨S5, hS5⟩ : ∃ S5 : St, Hid (S5 = if k = 2 then s4 else s3) := ⟨_, hd rfl⟩
  rw [← hZ.out, ← hS5.out]
  have ek : IntKind.i64.wrap (k : Int) = (k : Int) := by rw [IntKind.wrap_i64]; omega
  have en : IntKind.i64.wrap (n : Int) = (n : Int) := by rw [IntKind.wrap_i64]; omega
  have ev : IntKind.i64.wrap (v : Int) = wrap64 (v : Int) := wrap_i64_nat v
  have hzero : Hid (StB w r a cap bs s ((w.alloc (.cells #[.int .i64 0, .int .i64 0, .int .i64 0] 38)).alloc (.cells #[.int .i64 0, .int .i64 0, .int .i64 0] 38)) w.heap.size (w.heap.size + 1) 0 0 0) := hd (by
    have b1 := below_al w (.cells #[.int .i64 0, .int .i64 0, .int .i64 0] 38)
    have b2 := below_al (w.alloc (.cells #[.int .i64 0, .int .i64 0, .int .i64 0] 38)) (.cells #[.int .i64 0, .int .i64 0, .int .i64 0] 38)
    refine ⟨((ROut.refl h.out).after b1).after b2, ?_, ?_, Nat.le_refl _, by omega⟩
    · rw [b2.block _ (by simp)]
      exact heap_alloc_new w _
    · rw [show w.heap.size + 1 = (w.alloc (.cells #[.int .i64 0, .int .i64 0, .int .i64 0] 38)).heap.size by simp]
      exact heap_alloc_new _ _)
  go_enter Try.func33, Try.ntmps33
  go_upto_region 2 with fail
  obtain ⟨w1, hw1⟩ : ∃ W, Hid ((w.alloc (.cells #[.int .i64 0, .int .i64 0, .int .i64 0] 38)).alloc (.cells #[.int .i64 0, .int .i64 0, .int .i64 0] 38) = W) := ⟨_, rfl⟩
  rw [hw1.out] at hzero ⊢
  clear hw1
  obtain ⟨G, hG⟩ : ∃ G, Hid (w.heap.size = G) := ⟨_, rfl⟩
  rw [hG.out] at hzero ⊢
  clear hG
  have hn1 := N1.out w1 hzero.out.out.1
  clear N1
  have HX : Hid (∀ W, ROut w1 r a cap bs s1 W → StB w r a cap bs s1 W G (G + 1) 0 0 0 ∧ StB w r a cap bs s1 (W.setCell ⟨G + 1, 0, none⟩ (.int .i64 (k : Nat))) G (G + 1) k 0 0) := hd (fun W o => by
    have h1 := hzero.out.step hr.out o
    exact ⟨h1, h1.put h.out 0 _ rfl⟩)
  clear hzero
  go_upto_region 3 with (go_at_call 35; refine hn1.mono ?_; rintro e w2 ⟨rfl, o2⟩; obtain ⟨B2, B3⟩ := HX.out w2 o2; have c0 := B2.cells.1; have f0 := B2.free 0; replace B3 := hd B3; clear o2 B2)
  clear hn1 HX
  obtain ⟨w3, hw3⟩ : ∃ W, Hid (w2.setCell ⟨G + 1, 0, none⟩ (.int .i64 (k : Nat)) = W) := ⟨_, rfl⟩
  rw [hw3.out] at B3 ⊢
  clear hw3 c0 f0
  by_cases hbad : kindE k = 0
  · have hs2 : s2 = s1 := by rw [HK.out, hbad, failS_ok]
    subst hs2
    have c0 := B3.out.cells.1
    have hk := known_any (k : Int) true (by
      unfold kindE at hbad
      simp
      split at hbad
      · cases hbad
      · split at hbad
        · cases hbad
        · omega)
    have hn4 := N4.out w3 B3.out.out.1
    clear HF N4 HK hbad
    have HX : Hid (∀ W, ROut w3 r a cap bs s3 W → StB w r a cap bs s3 W G (G + 1) k 0 0 ∧ StB w r a cap bs s3 (W.setCell ⟨G + 1, 1, none⟩ (.int .i64 (n : Nat))) G (G + 1) k n 0) := hd (fun W o => by
      have h1 := B3.out.step hr.out o
      exact ⟨h1, h1.put h.out 1 _ rfl⟩)
    clear B3
    go_upto_region 6 with (first | (go_at_call 29; refine (hk _).mono ?_; rintro e w1 ⟨rfl, rfl⟩) | (go_at_call 35; refine hn4.mono ?_; rintro e w4 ⟨rfl, o4⟩; obtain ⟨B4, B5⟩ := HX.out w4 o4; have c1 := B4.cells.2.1; have f1 := B4.free 1; replace B5 := hd B5; clear o4 B4))
    have hv := hasV_any (k : Int)
    clear hk
    by_cases h2 : k = 2
    · have hv' : ((k : Int) == 2) = true := by simp; omega
      obtain rfl : Z = wrap64 (v : Nat) := by rw [hZ.out, if_pos h2]
      obtain rfl : s4 = S5 := by rw [hS5.out, if_pos h2]
      rw [hv'] at hv
      replace h2 := hd h2
      obtain ⟨w5, hw5⟩ : ∃ W, Hid (w4.setCell ⟨G + 1, 1, none⟩ (.int .i64 (n : Nat)) = W) := ⟨_, rfl⟩
      rw [hw5.out] at B5 ⊢
      clear hw5 c0 c1 f1 hn4 HX
      have c0 := B5.out.cells.1
      have hn8 := N8.out w5 B5.out.out.1
      clear N8
      have HX : Hid (∀ W, ROut w5 r a cap bs s4 W → StB w r a cap bs s4 W G (G + 1) k n 0 ∧ StB w r a cap bs s4 (W.setCell ⟨G + 1, 2, none⟩ (.int .i64 (wrap64 (v : Nat)))) G (G + 1) k n (wrap64 (v : Nat))) := hd (fun W o => by
        have h1 := B5.out.step hr.out o
        exact ⟨h1, h1.put h.out 2 _ rfl⟩)
      clear B5
      go_upto_region 8 with (first | (go_at_call 21; refine (hv _).mono ?_; rintro e w1 ⟨rfl, rfl⟩) | (go_at_call 35; refine hn8.mono ?_; rintro e w6 ⟨rfl, o6⟩; obtain ⟨B6, B7⟩ := HX.out w6 o6; have c2 := B6.cells.2.2; have f2 := B6.free 2; replace B7 := hd B7; clear o6 B6))
      obtain ⟨w7, hw7⟩ : ∃ W, Hid (w6.setCell ⟨G + 1, 2, none⟩ (.int .i64 (wrap64 (v : Nat))) = W) := ⟨_, rfl⟩
      rw [hw7.out] at B7 ⊢
      clear hw7 c0 c2 f2 hn8 HX
      obtain ⟨c0, c1, c2⟩ := B7.out.cells
      obtain ⟨a0, a1, a2⟩ := B7.out.cells0
      have f0 := B7.out.free0 0
      have f1 := B7.out.free0 1
      have f2 := B7.out.free0 2
      have HZ := hd (three_cells B7.out.b0 (v0 := .int .i64 (k : Nat)) (v1 := .int .i64 (n : Nat)) (v2 := .int .i64 (wrap64 (v : Nat))))
      have HO : Hid (ROut w r a cap bs s4 (((w7.setCell ⟨G, 0, none⟩ (.int .i64 (k : Nat))).setCell ⟨G, 1, none⟩ (.int .i64 (n : Nat))).setCell ⟨G, 2, none⟩ (.int .i64 (wrap64 (v : Nat))))) := hd (((B7.out.out.put h.out B7.out.n0 0 _).put h.out B7.out.n0 1 _).put h.out B7.out.n0 2 _)
      clear B7
      go_wp2_with fail
      obtain ⟨e2, -⟩ := HZ.out
      generalize ((w7.setCell ⟨G, 0, none⟩ (.int .i64 (k : Nat))).setCell ⟨G, 1, none⟩ (.int .i64 (n : Nat))).setCell ⟨G, 2, none⟩ (.int .i64 (wrap64 (v : Nat))) = WZ at *
      have d0 := cell_of_row WZ G 0 _ _ _ e2
      have d1 := cell_of_row WZ G 1 _ _ _ e2
      have d2 := cell_of_row WZ G 2 _ _ _ e2
      simp at d0 d1 d2
      refine bodyPost_ret (v := .agg #[.int .i64 (k : Nat), .int .i64 (n : Nat), .int .i64 (wrap64 (v : Nat))]) ?_ rfl ⟨rfl, HO.out⟩
      simp [results, Try.results33, go_sem, d0, d1, d2]
    · have hv' : ((k : Int) == 2) = false := by simp; omega
      obtain rfl : Z = 0 := by rw [hZ.out, if_neg h2]
      obtain rfl : s3 = S5 := by rw [hS5.out, if_neg h2]
      rw [hv'] at hv
      replace h2 := hd h2
      clear N8
      obtain ⟨w5, hw5⟩ : ∃ W, Hid (w4.setCell ⟨G + 1, 1, none⟩ (.int .i64 (n : Nat)) = W) := ⟨_, rfl⟩
      rw [hw5.out] at B5 ⊢
      clear hw5 c0 c1 f1 hn4 HX
      have c0 := B5.out.cells.1
      go_upto_region 8 with (go_at_call 21; refine (hv _).mono ?_; rintro e w5 ⟨rfl, rfl⟩)
      clear c0
      obtain ⟨c0, c1, c2⟩ := B5.out.cells
      obtain ⟨a0, a1, a2⟩ := B5.out.cells0
      have f0 := B5.out.free0 0
      have f1 := B5.out.free0 1
      have f2 := B5.out.free0 2
      have HZ := hd (three_cells B5.out.b0 (v0 := .int .i64 (k : Nat)) (v1 := .int .i64 (n : Nat)) (v2 := .int .i64 (0)))
      have HO : Hid (ROut w r a cap bs s3 (((w5.setCell ⟨G, 0, none⟩ (.int .i64 (k : Nat))).setCell ⟨G, 1, none⟩ (.int .i64 (n : Nat))).setCell ⟨G, 2, none⟩ (.int .i64 (0)))) := hd (((B5.out.out.put h.out B5.out.n0 0 _).put h.out B5.out.n0 1 _).put h.out B5.out.n0 2 _)
      clear B5
      go_wp2_with fail
      obtain ⟨e2, -⟩ := HZ.out
      generalize ((w5.setCell ⟨G, 0, none⟩ (.int .i64 (k : Nat))).setCell ⟨G, 1, none⟩ (.int .i64 (n : Nat))).setCell ⟨G, 2, none⟩ (.int .i64 (0)) = WZ at *
      have d0 := cell_of_row WZ G 0 _ _ _ e2
      have d1 := cell_of_row WZ G 1 _ _ _ e2
      have d2 := cell_of_row WZ G 2 _ _ _ e2
      simp at d0 d1 d2
      refine bodyPost_ret (v := .agg #[.int .i64 (k : Nat), .int .i64 (n : Nat), .int .i64 (0)]) ?_ rfl ⟨rfl, HO.out⟩
      simp [results, Try.results33, go_sem, d0, d1, d2]
  · have hk1 : kindE k = 1 := by
      unfold kindE at hbad ⊢
      split at hbad
      · next h1 => rw [if_pos h1]
      · next h1 =>
        rw [if_neg h1]
        split at hbad
        · next h2 => rw [if_pos h2]
        · exact absurd rfl hbad
    have h2 : k ≠ 2 := by
      intro h2
      subst h2
      exact hbad rfl
    have hs2 : s2 = failS s1 1 s1.fr := by rw [HK.out, hk1]
    have hk := known_any (k : Int) false (by
      unfold kindE at hbad
      simp
      split at hbad
      · omega
      · split at hbad
        · omega
        · exact absurd rfl hbad)
    have c0 := B3.out.cells.1
    have k1 := B3.out.out.1.cells.2.1
    have hf := HF.out w3 1 s1 (by decide) B3.out.out.1
    rw [← hs2] at hf
    have HY : Hid (∀ W, ROut w3 r a cap bs s2 W → _) := hd (fun W o => B3.out.step hr.out o)
    clear HF HK hbad hk1 hs2 B3
    go_upto_region 5 with (first | (go_at_call 29; refine (hk _).mono ?_; rintro e w1 ⟨rfl, rfl⟩) | (go_at_call 36; refine hf.mono ?_; rintro e w3 ⟨rfl, o3⟩; have B3 := hd (HY.out w3 o3); clear o3))
    clear hf HY c0 k1 hk
    have c0 := B3.out.cells.1
    have hn4 := N4.out w3 B3.out.out.1
    clear N4
    have HX : Hid (∀ W, ROut w3 r a cap bs s3 W → StB w r a cap bs s3 W G (G + 1) k 0 0 ∧ StB w r a cap bs s3 (W.setCell ⟨G + 1, 1, none⟩ (.int .i64 (n : Nat))) G (G + 1) k n 0) := hd (fun W o => by
      have h1 := B3.out.step hr.out o
      exact ⟨h1, h1.put h.out 1 _ rfl⟩)
    clear B3
    go_upto_region 6 with ((go_at_call 35; refine hn4.mono ?_; rintro e w4 ⟨rfl, o4⟩; obtain ⟨B4, B5⟩ := HX.out w4 o4; have c1 := B4.cells.2.1; have f1 := B4.free 1; replace B5 := hd B5; clear o4 B4))
    have hv := hasV_any (k : Int)
    have hv' : ((k : Int) == 2) = false := by simp; omega
    obtain rfl : Z = 0 := by rw [hZ.out, if_neg h2]
    obtain rfl : s3 = S5 := by rw [hS5.out, if_neg h2]
    rw [hv'] at hv
    replace h2 := hd h2
    clear N8
    obtain ⟨w5, hw5⟩ : ∃ W, Hid (w4.setCell ⟨G + 1, 1, none⟩ (.int .i64 (n : Nat)) = W) := ⟨_, rfl⟩
    rw [hw5.out] at B5 ⊢
    clear hw5 c0 c1 f1 hn4 HX
    have c0 := B5.out.cells.1
    go_upto_region 8 with (go_at_call 21; refine (hv _).mono ?_; rintro e w5 ⟨rfl, rfl⟩)
    clear c0
    obtain ⟨c0, c1, c2⟩ := B5.out.cells
    obtain ⟨a0, a1, a2⟩ := B5.out.cells0
    have f0 := B5.out.free0 0
    have f1 := B5.out.free0 1
    have f2 := B5.out.free0 2
    have HZ := hd (three_cells B5.out.b0 (v0 := .int .i64 (k : Nat)) (v1 := .int .i64 (n : Nat)) (v2 := .int .i64 (0)))
    have HO : Hid (ROut w r a cap bs s3 (((w5.setCell ⟨G, 0, none⟩ (.int .i64 (k : Nat))).setCell ⟨G, 1, none⟩ (.int .i64 (n : Nat))).setCell ⟨G, 2, none⟩ (.int .i64 (0)))) := hd (((B5.out.out.put h.out B5.out.n0 0 _).put h.out B5.out.n0 1 _).put h.out B5.out.n0 2 _)
    clear B5
    go_wp2_with fail
    obtain ⟨e2, -⟩ := HZ.out
    generalize ((w5.setCell ⟨G, 0, none⟩ (.int .i64 (k : Nat))).setCell ⟨G, 1, none⟩ (.int .i64 (n : Nat))).setCell ⟨G, 2, none⟩ (.int .i64 (0)) = WZ at *
    have d0 := cell_of_row WZ G 0 _ _ _ e2
    have d1 := cell_of_row WZ G 1 _ _ _ e2
    have d2 := cell_of_row WZ G 2 _ _ _ e2
    simp at d0 d1 d2
    refine bodyPost_ret (v := .agg #[.int .i64 (k : Nat), .int .i64 (n : Nat), .int .i64 (0)]) ?_ rfl ⟨rfl, HO.out⟩
    simp [results, Try.results33, go_sem, d0, d1, d2]
end
end Go.Proofs.Ytnkanaccacephaa
