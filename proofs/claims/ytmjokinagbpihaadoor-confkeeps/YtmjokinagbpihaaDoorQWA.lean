/- The reader's numbers that have limits. -/
import Derived.Test.YtmjokinagbpihaaDoorQW9
import Derived.Test.YtmjokinagbpihaaDoorUT
namespace Go.Proofs.YtmjokinagbpihaaDoor
open Go.RowKit

def limT : List Int := [1, 256, 2, 1, 64, 1, 0, 8, 1, 0, 4096, 2]
/-- The limits lie in memory. -/
def Lim (w : World) : Prop := ∀ i, i < 12 → w.cell? ⟨0, i, none⟩ = some (.int .i64 (limT.getD i 0))
theorem Lim.kept {w w' : World} (h : Lim w) (hb : Below w.heap.size w w') : Lim w' := fun i hi => (hb.cell (World.block_lt_of_cell? w _ (h i hi))).trans (h i hi)
theorem Lim.mod {w w' : World} {S : Nat → Prop} (h : Lim w) (hm : Mod S w w') (hs : ¬ S 0) : Lim w' := fun i hi => by
  have hc := h i hi
  rw [hm.cell (p := ⟨0, i, none⟩) (World.block_lt_of_cell? w _ hc) hs]
  exact hc

def limF : Nat → Nat → Int
  | 0 => fun n => rngE 1 256 n
  | 1 => fun n => rngE 1 64 n
  | 2 => fun n => rngE 0 8 n
  | _ => fun n => rngE 0 4096 n
def limB : Nat → Nat
  | 0 => 2
  | 1 => 1
  | 2 => 1
  | _ => 2
/-- How the reader stands behind so many of these numbers; the numbers. -/
def stN (bs : List Nat) (s : St) : Nat → St
  | 0 => s
  | i + 1 => (chkS bs (limB i) (limF i) (stN bs s i)).2
def vaN (bs : List Nat) (s : St) (i : Nat) : Nat := (chkS bs (limB i) (limF i) (stN bs s i)).1
def cvN (bs : List Nat) (s : St) (i j : Nat) : Int := if j < i then (vaN bs s j : Nat) else 0

/-- One world alone. -/
structure OneW (w : World) where
  val : World
  is : val = w

section
variable {w : World} {r : Nat} {a : Option Addr} {cap : Nat} {bs : List Nat} {s : St}
set_option maxRecDepth 100000 in
set_option maxHeartbeats 4000000 in
theorem numbers_any (h : RdAt w r a cap bs s) (hL : Lim w) :
    Calls Tryd.prog 56 #[.pointer (some ⟨r, 0, none⟩)] w fun e w' => e = .returned (.tuple #[.int .i64 (vaN bs s 0 : Nat), .int .i64 (vaN bs s 1 : Nat), .int .i64 (vaN bs s 2 : Nat), .int .i64 (vaN bs s 3 : Nat)]) ∧ ROut w r a cap bs (stN bs s 4) w' := by
  have H := hd h
  have hb0 := below_al w (.cells #[.int .i64 0, .int .i64 0, .int .i64 0, .int .i64 0] 53)
  have l0 := (hL.kept hb0) 0 (by omega)
  have l1 := (hL.kept hb0) 1 (by omega)
  have l2 := (hL.kept hb0) 2 (by omega)
  have l3 := (hL.kept hb0) 3 (by omega)
  have l4 := (hL.kept hb0) 4 (by omega)
  have l5 := (hL.kept hb0) 5 (by omega)
  have l6 := (hL.kept hb0) 6 (by omega)
  have l7 := (hL.kept hb0) 7 (by omega)
  have l8 := (hL.kept hb0) 8 (by omega)
  have l9 := (hL.kept hb0) 9 (by omega)
  have l10 := (hL.kept hb0) 10 (by omega)
  have l11 := (hL.kept hb0) 11 (by omega)
  simp only [limT, List.getD_cons_zero, List.getD_cons_succ] at l0 l1 l2 l3 l4 l5 l6 l7 l8 l9 l10 l11
  clear h hL
  go_enter Tryd.func56, Tryd.ntmps56
  go_upto_block 0 with fail
  obtain ⟨w0, hw0⟩ : ∃ W, Hid (w.alloc (.cells #[.int .i64 0, .int .i64 0, .int .i64 0, .int .i64 0] 53) = W) := ⟨_, rfl⟩
  rw [hw0.out]
  obtain ⟨G, hG⟩ : ∃ G, Hid (w.heap.size = G) := ⟨_, rfl⟩
  rw [hG.out]
  have HI : Hid (ROut w r a cap bs (stN bs s 0) w0 ∧ w0.heap[G]? = some (.cells #[.int .i64 (cvN bs s 0 0), .int .i64 (cvN bs s 0 1), .int .i64 (cvN bs s 0 2), .int .i64 (cvN bs s 0 3)] 53 (0, 0))) := hd (by
    rw [← hw0.out, ← hG.out]
    exact ⟨⟨H.out.below hb0, Mod.of_below _ hb0⟩, heap_alloc_new w _⟩)
  clear hb0 hw0 l0 l1 l2 l3 l4 l5 l6 l7 l8 l9 l10 l11
  have hrG : r < G := by rw [← hG.out]; exact H.out.lt
  go_wp2_with fail
  go_loopg [7, 8, 10, 11, 12, 13, 14, 15, 16, 17, 18, 19, 20, 21, 22, 23, 24, 25, 26, 27, 28, 29, 30, 31, 32, 33, 34] 4 (fun g v7 v8 v10 v11 v12 v13 v14 v15 v16 v17 v18 v19 v20 v21 v22 v23 v24 v25 v26 v27 v28 v29 v30 v31 v32 v33 v34 wr => ∃ i : Nat, i + g = 4 ∧ v10 = .int .i64 (i : Int) ∧ Hid (ROut w r a cap bs (stN bs s i) wr ∧ wr.heap[G]? = some (.cells #[.int .i64 (cvN bs s i 0), .int .i64 (cvN bs s i 1), .int .i64 (cvN bs s i 2), .int .i64 (cvN bs s i 3)] 53 (0, 0))))
  case atStart => exact ⟨0, by omega, by go_num, HI⟩
  case round =>
    obtain ⟨i, hi, rfl, HW⟩ := hrel
    clear HI
    have hc : i = 0 ∨ i = 1 ∨ i = 2 ∨ i = 3 ∨ i = 4 := by omega
    rcases hc with rfl | rfl | rfl | rfl | rfl
    · obtain rfl : gk = 4 := by omega
      have ix : ∀ W, (Instr.index 58 (.agg #[.int .i64 1, .int .i64 256, .int .i64 2, .int .i64 1, .int .i64 64, .int .i64 1, .int .i64 0, .int .i64 8, .int .i64 1, .int .i64 0, .int .i64 4096, .int .i64 2]) (.int .i64 0)).run Tryd.prog W = .ok (.agg #[.int .i64 1, .int .i64 256, .int .i64 2]) W := fun W => by kernel_rfl
      go_upto_region 5 with fail
      clear ix
      obtain ⟨wa, hwa⟩ : ∃ W, Hid (wr.alloc (.cells #[.int .i64 1, .int .i64 256, .int .i64 2] 57) = W) := ⟨_, rfl⟩
      rw [hwa.out]
      have hba : Below wr.heap.size wr wa := by rw [← hwa.out]; exact below_al wr _
      have HB : Hid (wa.heap[wr.heap.size]? = some (.cells #[.int .i64 1, .int .i64 256, .int .i64 2] 57 (0, 0))) := hd (by rw [← hwa.out]; exact heap_alloc_new wr _)
      have hgl := (Array.getElem?_eq_some_iff.1 HW.out.2).1
      have HG : Hid (wa.heap[G]? = some (.cells #[.int .i64 (cvN bs s 0 0), .int .i64 (cvN bs s 0 1), .int .i64 (cvN bs s 0 2), .int .i64 (cvN bs s 0 3)] 53 (0, 0))) := hd (by rw [hba.block G hgl]; exact HW.out.2)
      have O1 : Hid (ROut w r a cap bs (stN bs s 0) wa) := hd (HW.out.1.after hba)
      have hrw := HW.out.1.1.lt
      obtain ⟨B, hB⟩ : ∃ B, Hid (wr.heap.size = B) := ⟨_, rfl⟩
      rw [hB.out] at HB hgl hrw ⊢
      clear hwa hba hB HW
      have x2 := cell_of_row wa B 2 _ _ _ HB.out
      simp at x2
      have hs := small_any O1.out.1 2 ⟨by omega, by omega⟩
      have HN : Hid (∀ W1 W2, ROut wa r a cap bs (numS bs 2 (stN bs s 0)).2 W1 → ROut (W1.setCell ⟨G, 0, none⟩ (.int .i64 ((numS bs 2 (stN bs s 0)).1 : Nat))) r a cap bs (failS (numS bs 2 (stN bs s 0)).2 (rngE 1 256 ((numS bs 2 (stN bs s 0)).1 : Nat)) (numS bs 2 (stN bs s 0)).2.fr) W2 → ROut w r a cap bs (stN bs s 1) W2 ∧ W2.heap[G]? = some (.cells #[.int .i64 (cvN bs s 1 0), .int .i64 (cvN bs s 1 1), .int .i64 (cvN bs s 1 2), .int .i64 (cvN bs s 1 3)] 53 (0, 0))) := hd (by
        intro W1 W2 o1 o2
        have o3 := (O1.out.trans o1).put H.out (Nat.le_of_eq hG.out) 0 (.int .i64 ((numS bs 2 (stN bs s 0)).1 : Nat))
        refine ⟨o3.trans o2, ?_⟩
        have e1 : W1.heap[G]? = _ := (o1.2.block G (Array.getElem?_eq_some_iff.1 HG.out).1 (by omega)).trans HG.out
        have e2 := heap_setCell_same W1 G 0 _ _ (.int .i64 ((numS bs 2 (stN bs s 0)).1 : Nat)) e1
        rw [o2.2.block G (Array.getElem?_eq_some_iff.1 e2).1 (by omega), e2]
        rfl)
      have HK : Hid (∀ W1, ROut wa r a cap bs (numS bs 2 (stN bs s 0)).2 W1 → W1.heap[G]? = some (.cells #[.int .i64 (cvN bs s 0 0), .int .i64 (cvN bs s 0 1), .int .i64 (cvN bs s 0 2), .int .i64 (cvN bs s 0 3)] 53 (0, 0)) ∧ W1.heap[B]? = some (.cells #[.int .i64 1, .int .i64 256, .int .i64 2] 57 (0, 0)) ∧ ROut w r a cap bs (numS bs 2 (stN bs s 0)).2 W1) := hd (by
        intro W1 o1
        exact ⟨(o1.2.block G (Array.getElem?_eq_some_iff.1 HG.out).1 (by omega)).trans HG.out, (o1.2.block B (Array.getElem?_eq_some_iff.1 HB.out).1 (by omega)).trans HB.out, O1.out.trans o1⟩)
      have hlt := numS_lt (s := stN bs s 0) O1.out.1.byte 2 (by omega)
      have hwi := within_any ((numS bs 2 (stN bs s 0)).1 : Nat) 1 256
      clear HB HG O1
      generalize rngE 1 256 ((numS bs 2 (stN bs s 0)).1 : Nat) = E at *
      generalize (numS bs 2 (stN bs s 0)).1 = v at *
      generalize (numS bs 2 (stN bs s 0)).2 = s1 at *
      have hf : Hid (∀ W1, ROut wa r a cap bs s1 W1 → (∀ n, W1.cell? ⟨G, n, none⟩ = (#[.int .i64 (cvN bs s 0 0), .int .i64 (cvN bs s 0 1), .int .i64 (cvN bs s 0 2), .int .i64 (cvN bs s 0 3)] : Array Value)[n]? ∧ W1.frozen? ⟨G, n, none⟩ = false)) := hd (fun W1 o1 n => ⟨cell_of_row _ _ _ _ _ _ (HK.out W1 o1).1, by simp [World.frozen?, (HK.out W1 o1).1]⟩)
      go_upto_region 6 with (go_at_call 67; refine hs.mono ?_; rintro e w1 ⟨rfl, o1⟩; have g0 := ((hf.out w1 o1) 0).1; have g1 := ((hf.out w1 o1) 0).2; replace o1 := hd o1; simp at g0)
      obtain ⟨w2, hw2⟩ : ∃ W, Hid (w1.setCell ⟨G, 0, none⟩ (.int .i64 (v : Int)) = W) := ⟨_, rfl⟩
      rw [hw2.out]
      have o2 : ROut w r a cap bs s1 w2 := by rw [← hw2.out]; exact (HK.out w1 o1.out).2.2.put H.out (Nat.le_of_eq hG.out) _ _
      have y0 : w2.cell? ⟨G, 0, none⟩ = some (.int .i64 (v : Int)) := by
        rw [← hw2.out, cell_of_row _ _ _ _ _ _ (heap_setCell_same w1 G 0 _ _ _ (HK.out w1 o1.out).1)]
        rfl
      have hB2 : w2.heap[B]? = some (.cells #[.int .i64 1, .int .i64 256, .int .i64 2] 57 (0, 0)) := by
        rw [← hw2.out, Below.heap_setCell _ _ _ _ (by simp only; omega)]
        exact (HK.out w1 o1.out).2.1
      have y1 := cell_of_row w2 B 0 _ _ _ hB2
      have y2 := cell_of_row w2 B 1 _ _ _ hB2
      simp at y1 y2
      have y3 := o2.1.cells.2.1
      have hfl : Calls Tryd.prog 68 #[.pointer (some ⟨r, 0, none⟩), .int .i64 E, .int .i64 s1.fr] w2.drew fun e w' => e = .returned (.tuple #[]) ∧ ROut w2 r a cap bs (failS s1 E s1.fr) w' :=
        (fail_any (o2.1.below (below_draw w2 1)) E s1.fr).mono fun e w' ⟨he, ho⟩ => ⟨he, ho.1, (Mod.of_below _ (below_draw w2 1)).trans ho.2 (fun _ h => .inl h)⟩
      have HN2 : Hid (∀ W2, ROut w2 r a cap bs (failS s1 E s1.fr) W2 → _) := hd (fun W2 ho => HN.out w1 W2 o1.out (by rw [hw2.out]; exact ho))
      clear HN HK hf o1 hw2 o2 hB2 g0 g1
      have z0 : ∀ p : OneW w2.drew, p.val.cell? ⟨G, 0, none⟩ = some (.int .i64 (v : Int)) := fun p => by rw [p.is]; exact y0
      have z1 : ∀ p : OneW w2.drew, p.val.cell? ⟨B, 0, none⟩ = some (.int .i64 1) := fun p => by rw [p.is]; exact y1
      have z2 : ∀ p : OneW w2.drew, p.val.cell? ⟨B, 1, none⟩ = some (.int .i64 256) := fun p => by rw [p.is]; exact y2
      have z3 : ∀ p : OneW w2.drew, p.val.cell? ⟨r, 1, none⟩ = some (.int .i64 s1.fr) := fun p => by rw [p.is]; exact y3
      have q1 : ∀ p : OneW w2.drew, Calls Tryd.prog 29 #[.int .i64 (v : Int), .int .i64 1, .int .i64 256] p.val fun e w'' => e = .returned (.int .i64 E) ∧ ∃ p' : OneW w2.drew, w'' = p'.val := fun p => (hwi p.val).mono fun e w' ⟨he, hw⟩ => ⟨he, p, hw⟩
      have nek : Nonempty (OneW w2.drew) := ⟨⟨w2.drew, rfl⟩⟩
      clear hwi y0 y1 y2 y3
      refine wp_region_last (α := OneW w2.drew) 13 OneW.val (by kernel_rfl) (by kernel_rfl) (by kernel_rfl) rfl rfl ⟨w2.drew, rfl⟩ rfl ?_
      simp only [List.take_succ_cons, List.take_zero]
      repeat (go_big_quiet_step (first | with_reducible exact q1 _))
      refine wpQuiet_nil ?_
      rintro w' ⟨p, rfl⟩
      rw [p.is]
      clear z0 z1 z2 z3 q1 nek
      go_wp2_with (go_at_call 68; refine hfl.mono ?_; rintro e wx ⟨rfl, ox⟩)
      go_roundg 3
      case rel => exact ⟨1, by omega, rfl, hd (HN2.out wx ox)⟩
      case measure => omega
    · obtain rfl : gk = 3 := by omega
      have ix : ∀ W, (Instr.index 58 (.agg #[.int .i64 1, .int .i64 256, .int .i64 2, .int .i64 1, .int .i64 64, .int .i64 1, .int .i64 0, .int .i64 8, .int .i64 1, .int .i64 0, .int .i64 4096, .int .i64 2]) (.int .i64 1)).run Tryd.prog W = .ok (.agg #[.int .i64 1, .int .i64 64, .int .i64 1]) W := fun W => by kernel_rfl
      go_upto_region 5 with fail
      clear ix
      obtain ⟨wa, hwa⟩ : ∃ W, Hid (wr.alloc (.cells #[.int .i64 1, .int .i64 64, .int .i64 1] 57) = W) := ⟨_, rfl⟩
      rw [hwa.out]
      have hba : Below wr.heap.size wr wa := by rw [← hwa.out]; exact below_al wr _
      have HB : Hid (wa.heap[wr.heap.size]? = some (.cells #[.int .i64 1, .int .i64 64, .int .i64 1] 57 (0, 0))) := hd (by rw [← hwa.out]; exact heap_alloc_new wr _)
      have hgl := (Array.getElem?_eq_some_iff.1 HW.out.2).1
      have HG : Hid (wa.heap[G]? = some (.cells #[.int .i64 (cvN bs s 1 0), .int .i64 (cvN bs s 1 1), .int .i64 (cvN bs s 1 2), .int .i64 (cvN bs s 1 3)] 53 (0, 0))) := hd (by rw [hba.block G hgl]; exact HW.out.2)
      have O1 : Hid (ROut w r a cap bs (stN bs s 1) wa) := hd (HW.out.1.after hba)
      have hrw := HW.out.1.1.lt
      obtain ⟨B, hB⟩ : ∃ B, Hid (wr.heap.size = B) := ⟨_, rfl⟩
      rw [hB.out] at HB hgl hrw ⊢
      clear hwa hba hB HW
      have x2 := cell_of_row wa B 2 _ _ _ HB.out
      simp at x2
      have hs := small_any O1.out.1 1 ⟨by omega, by omega⟩
      have HN : Hid (∀ W1 W2, ROut wa r a cap bs (numS bs 1 (stN bs s 1)).2 W1 → ROut (W1.setCell ⟨G, 1, none⟩ (.int .i64 ((numS bs 1 (stN bs s 1)).1 : Nat))) r a cap bs (failS (numS bs 1 (stN bs s 1)).2 (rngE 1 64 ((numS bs 1 (stN bs s 1)).1 : Nat)) (numS bs 1 (stN bs s 1)).2.fr) W2 → ROut w r a cap bs (stN bs s 2) W2 ∧ W2.heap[G]? = some (.cells #[.int .i64 (cvN bs s 2 0), .int .i64 (cvN bs s 2 1), .int .i64 (cvN bs s 2 2), .int .i64 (cvN bs s 2 3)] 53 (0, 0))) := hd (by
        intro W1 W2 o1 o2
        have o3 := (O1.out.trans o1).put H.out (Nat.le_of_eq hG.out) 1 (.int .i64 ((numS bs 1 (stN bs s 1)).1 : Nat))
        refine ⟨o3.trans o2, ?_⟩
        have e1 : W1.heap[G]? = _ := (o1.2.block G (Array.getElem?_eq_some_iff.1 HG.out).1 (by omega)).trans HG.out
        have e2 := heap_setCell_same W1 G 1 _ _ (.int .i64 ((numS bs 1 (stN bs s 1)).1 : Nat)) e1
        rw [o2.2.block G (Array.getElem?_eq_some_iff.1 e2).1 (by omega), e2]
        rfl)
      have HK : Hid (∀ W1, ROut wa r a cap bs (numS bs 1 (stN bs s 1)).2 W1 → W1.heap[G]? = some (.cells #[.int .i64 (cvN bs s 1 0), .int .i64 (cvN bs s 1 1), .int .i64 (cvN bs s 1 2), .int .i64 (cvN bs s 1 3)] 53 (0, 0)) ∧ W1.heap[B]? = some (.cells #[.int .i64 1, .int .i64 64, .int .i64 1] 57 (0, 0)) ∧ ROut w r a cap bs (numS bs 1 (stN bs s 1)).2 W1) := hd (by
        intro W1 o1
        exact ⟨(o1.2.block G (Array.getElem?_eq_some_iff.1 HG.out).1 (by omega)).trans HG.out, (o1.2.block B (Array.getElem?_eq_some_iff.1 HB.out).1 (by omega)).trans HB.out, O1.out.trans o1⟩)
      have hlt := numS_lt (s := stN bs s 1) O1.out.1.byte 1 (by omega)
      have hwi := within_any ((numS bs 1 (stN bs s 1)).1 : Nat) 1 64
      clear HB HG O1
      generalize rngE 1 64 ((numS bs 1 (stN bs s 1)).1 : Nat) = E at *
      generalize (numS bs 1 (stN bs s 1)).1 = v at *
      generalize (numS bs 1 (stN bs s 1)).2 = s1 at *
      have hf : Hid (∀ W1, ROut wa r a cap bs s1 W1 → (∀ n, W1.cell? ⟨G, n, none⟩ = (#[.int .i64 (cvN bs s 1 0), .int .i64 (cvN bs s 1 1), .int .i64 (cvN bs s 1 2), .int .i64 (cvN bs s 1 3)] : Array Value)[n]? ∧ W1.frozen? ⟨G, n, none⟩ = false)) := hd (fun W1 o1 n => ⟨cell_of_row _ _ _ _ _ _ (HK.out W1 o1).1, by simp [World.frozen?, (HK.out W1 o1).1]⟩)
      go_upto_region 6 with (go_at_call 67; refine hs.mono ?_; rintro e w1 ⟨rfl, o1⟩; have g0 := ((hf.out w1 o1) 1).1; have g1 := ((hf.out w1 o1) 1).2; replace o1 := hd o1; simp at g0)
      obtain ⟨w2, hw2⟩ : ∃ W, Hid (w1.setCell ⟨G, 1, none⟩ (.int .i64 (v : Int)) = W) := ⟨_, rfl⟩
      rw [hw2.out]
      have o2 : ROut w r a cap bs s1 w2 := by rw [← hw2.out]; exact (HK.out w1 o1.out).2.2.put H.out (Nat.le_of_eq hG.out) _ _
      have y0 : w2.cell? ⟨G, 1, none⟩ = some (.int .i64 (v : Int)) := by
        rw [← hw2.out, cell_of_row _ _ _ _ _ _ (heap_setCell_same w1 G 1 _ _ _ (HK.out w1 o1.out).1)]
        rfl
      have hB2 : w2.heap[B]? = some (.cells #[.int .i64 1, .int .i64 64, .int .i64 1] 57 (0, 0)) := by
        rw [← hw2.out, Below.heap_setCell _ _ _ _ (by simp only; omega)]
        exact (HK.out w1 o1.out).2.1
      have y1 := cell_of_row w2 B 0 _ _ _ hB2
      have y2 := cell_of_row w2 B 1 _ _ _ hB2
      simp at y1 y2
      have y3 := o2.1.cells.2.1
      have hfl : Calls Tryd.prog 68 #[.pointer (some ⟨r, 0, none⟩), .int .i64 E, .int .i64 s1.fr] w2.drew fun e w' => e = .returned (.tuple #[]) ∧ ROut w2 r a cap bs (failS s1 E s1.fr) w' :=
        (fail_any (o2.1.below (below_draw w2 1)) E s1.fr).mono fun e w' ⟨he, ho⟩ => ⟨he, ho.1, (Mod.of_below _ (below_draw w2 1)).trans ho.2 (fun _ h => .inl h)⟩
      have HN2 : Hid (∀ W2, ROut w2 r a cap bs (failS s1 E s1.fr) W2 → _) := hd (fun W2 ho => HN.out w1 W2 o1.out (by rw [hw2.out]; exact ho))
      clear HN HK hf o1 hw2 o2 hB2 g0 g1
      have z0 : ∀ p : OneW w2.drew, p.val.cell? ⟨G, 1, none⟩ = some (.int .i64 (v : Int)) := fun p => by rw [p.is]; exact y0
      have z1 : ∀ p : OneW w2.drew, p.val.cell? ⟨B, 0, none⟩ = some (.int .i64 1) := fun p => by rw [p.is]; exact y1
      have z2 : ∀ p : OneW w2.drew, p.val.cell? ⟨B, 1, none⟩ = some (.int .i64 64) := fun p => by rw [p.is]; exact y2
      have z3 : ∀ p : OneW w2.drew, p.val.cell? ⟨r, 1, none⟩ = some (.int .i64 s1.fr) := fun p => by rw [p.is]; exact y3
      have q1 : ∀ p : OneW w2.drew, Calls Tryd.prog 29 #[.int .i64 (v : Int), .int .i64 1, .int .i64 64] p.val fun e w'' => e = .returned (.int .i64 E) ∧ ∃ p' : OneW w2.drew, w'' = p'.val := fun p => (hwi p.val).mono fun e w' ⟨he, hw⟩ => ⟨he, p, hw⟩
      have nek : Nonempty (OneW w2.drew) := ⟨⟨w2.drew, rfl⟩⟩
      clear hwi y0 y1 y2 y3
      refine wp_region_last (α := OneW w2.drew) 13 OneW.val (by kernel_rfl) (by kernel_rfl) (by kernel_rfl) rfl rfl ⟨w2.drew, rfl⟩ rfl ?_
      simp only [List.take_succ_cons, List.take_zero]
      repeat (go_big_quiet_step (first | with_reducible exact q1 _))
      refine wpQuiet_nil ?_
      rintro w' ⟨p, rfl⟩
      rw [p.is]
      clear z0 z1 z2 z3 q1 nek
      go_wp2_with (go_at_call 68; refine hfl.mono ?_; rintro e wx ⟨rfl, ox⟩)
      go_roundg 2
      case rel => exact ⟨2, by omega, rfl, hd (HN2.out wx ox)⟩
      case measure => omega
    · obtain rfl : gk = 2 := by omega
      have ix : ∀ W, (Instr.index 58 (.agg #[.int .i64 1, .int .i64 256, .int .i64 2, .int .i64 1, .int .i64 64, .int .i64 1, .int .i64 0, .int .i64 8, .int .i64 1, .int .i64 0, .int .i64 4096, .int .i64 2]) (.int .i64 2)).run Tryd.prog W = .ok (.agg #[.int .i64 0, .int .i64 8, .int .i64 1]) W := fun W => by kernel_rfl
      go_upto_region 5 with fail
      clear ix
      obtain ⟨wa, hwa⟩ : ∃ W, Hid (wr.alloc (.cells #[.int .i64 0, .int .i64 8, .int .i64 1] 57) = W) := ⟨_, rfl⟩
      rw [hwa.out]
      have hba : Below wr.heap.size wr wa := by rw [← hwa.out]; exact below_al wr _
      have HB : Hid (wa.heap[wr.heap.size]? = some (.cells #[.int .i64 0, .int .i64 8, .int .i64 1] 57 (0, 0))) := hd (by rw [← hwa.out]; exact heap_alloc_new wr _)
      have hgl := (Array.getElem?_eq_some_iff.1 HW.out.2).1
      have HG : Hid (wa.heap[G]? = some (.cells #[.int .i64 (cvN bs s 2 0), .int .i64 (cvN bs s 2 1), .int .i64 (cvN bs s 2 2), .int .i64 (cvN bs s 2 3)] 53 (0, 0))) := hd (by rw [hba.block G hgl]; exact HW.out.2)
      have O1 : Hid (ROut w r a cap bs (stN bs s 2) wa) := hd (HW.out.1.after hba)
      have hrw := HW.out.1.1.lt
      obtain ⟨B, hB⟩ : ∃ B, Hid (wr.heap.size = B) := ⟨_, rfl⟩
      rw [hB.out] at HB hgl hrw ⊢
      clear hwa hba hB HW
      have x2 := cell_of_row wa B 2 _ _ _ HB.out
      simp at x2
      have hs := small_any O1.out.1 1 ⟨by omega, by omega⟩
      have HN : Hid (∀ W1 W2, ROut wa r a cap bs (numS bs 1 (stN bs s 2)).2 W1 → ROut (W1.setCell ⟨G, 2, none⟩ (.int .i64 ((numS bs 1 (stN bs s 2)).1 : Nat))) r a cap bs (failS (numS bs 1 (stN bs s 2)).2 (rngE 0 8 ((numS bs 1 (stN bs s 2)).1 : Nat)) (numS bs 1 (stN bs s 2)).2.fr) W2 → ROut w r a cap bs (stN bs s 3) W2 ∧ W2.heap[G]? = some (.cells #[.int .i64 (cvN bs s 3 0), .int .i64 (cvN bs s 3 1), .int .i64 (cvN bs s 3 2), .int .i64 (cvN bs s 3 3)] 53 (0, 0))) := hd (by
        intro W1 W2 o1 o2
        have o3 := (O1.out.trans o1).put H.out (Nat.le_of_eq hG.out) 2 (.int .i64 ((numS bs 1 (stN bs s 2)).1 : Nat))
        refine ⟨o3.trans o2, ?_⟩
        have e1 : W1.heap[G]? = _ := (o1.2.block G (Array.getElem?_eq_some_iff.1 HG.out).1 (by omega)).trans HG.out
        have e2 := heap_setCell_same W1 G 2 _ _ (.int .i64 ((numS bs 1 (stN bs s 2)).1 : Nat)) e1
        rw [o2.2.block G (Array.getElem?_eq_some_iff.1 e2).1 (by omega), e2]
        rfl)
      have HK : Hid (∀ W1, ROut wa r a cap bs (numS bs 1 (stN bs s 2)).2 W1 → W1.heap[G]? = some (.cells #[.int .i64 (cvN bs s 2 0), .int .i64 (cvN bs s 2 1), .int .i64 (cvN bs s 2 2), .int .i64 (cvN bs s 2 3)] 53 (0, 0)) ∧ W1.heap[B]? = some (.cells #[.int .i64 0, .int .i64 8, .int .i64 1] 57 (0, 0)) ∧ ROut w r a cap bs (numS bs 1 (stN bs s 2)).2 W1) := hd (by
        intro W1 o1
        exact ⟨(o1.2.block G (Array.getElem?_eq_some_iff.1 HG.out).1 (by omega)).trans HG.out, (o1.2.block B (Array.getElem?_eq_some_iff.1 HB.out).1 (by omega)).trans HB.out, O1.out.trans o1⟩)
      have hlt := numS_lt (s := stN bs s 2) O1.out.1.byte 1 (by omega)
      have hwi := within_any ((numS bs 1 (stN bs s 2)).1 : Nat) 0 8
      clear HB HG O1
      generalize rngE 0 8 ((numS bs 1 (stN bs s 2)).1 : Nat) = E at *
      generalize (numS bs 1 (stN bs s 2)).1 = v at *
      generalize (numS bs 1 (stN bs s 2)).2 = s1 at *
      have hf : Hid (∀ W1, ROut wa r a cap bs s1 W1 → (∀ n, W1.cell? ⟨G, n, none⟩ = (#[.int .i64 (cvN bs s 2 0), .int .i64 (cvN bs s 2 1), .int .i64 (cvN bs s 2 2), .int .i64 (cvN bs s 2 3)] : Array Value)[n]? ∧ W1.frozen? ⟨G, n, none⟩ = false)) := hd (fun W1 o1 n => ⟨cell_of_row _ _ _ _ _ _ (HK.out W1 o1).1, by simp [World.frozen?, (HK.out W1 o1).1]⟩)
      go_upto_region 6 with (go_at_call 67; refine hs.mono ?_; rintro e w1 ⟨rfl, o1⟩; have g0 := ((hf.out w1 o1) 2).1; have g1 := ((hf.out w1 o1) 2).2; replace o1 := hd o1; simp at g0)
      obtain ⟨w2, hw2⟩ : ∃ W, Hid (w1.setCell ⟨G, 2, none⟩ (.int .i64 (v : Int)) = W) := ⟨_, rfl⟩
      rw [hw2.out]
      have o2 : ROut w r a cap bs s1 w2 := by rw [← hw2.out]; exact (HK.out w1 o1.out).2.2.put H.out (Nat.le_of_eq hG.out) _ _
      have y0 : w2.cell? ⟨G, 2, none⟩ = some (.int .i64 (v : Int)) := by
        rw [← hw2.out, cell_of_row _ _ _ _ _ _ (heap_setCell_same w1 G 2 _ _ _ (HK.out w1 o1.out).1)]
        rfl
      have hB2 : w2.heap[B]? = some (.cells #[.int .i64 0, .int .i64 8, .int .i64 1] 57 (0, 0)) := by
        rw [← hw2.out, Below.heap_setCell _ _ _ _ (by simp only; omega)]
        exact (HK.out w1 o1.out).2.1
      have y1 := cell_of_row w2 B 0 _ _ _ hB2
      have y2 := cell_of_row w2 B 1 _ _ _ hB2
      simp at y1 y2
      have y3 := o2.1.cells.2.1
      have hfl : Calls Tryd.prog 68 #[.pointer (some ⟨r, 0, none⟩), .int .i64 E, .int .i64 s1.fr] w2.drew fun e w' => e = .returned (.tuple #[]) ∧ ROut w2 r a cap bs (failS s1 E s1.fr) w' :=
        (fail_any (o2.1.below (below_draw w2 1)) E s1.fr).mono fun e w' ⟨he, ho⟩ => ⟨he, ho.1, (Mod.of_below _ (below_draw w2 1)).trans ho.2 (fun _ h => .inl h)⟩
      have HN2 : Hid (∀ W2, ROut w2 r a cap bs (failS s1 E s1.fr) W2 → _) := hd (fun W2 ho => HN.out w1 W2 o1.out (by rw [hw2.out]; exact ho))
      clear HN HK hf o1 hw2 o2 hB2 g0 g1
      have z0 : ∀ p : OneW w2.drew, p.val.cell? ⟨G, 2, none⟩ = some (.int .i64 (v : Int)) := fun p => by rw [p.is]; exact y0
      have z1 : ∀ p : OneW w2.drew, p.val.cell? ⟨B, 0, none⟩ = some (.int .i64 0) := fun p => by rw [p.is]; exact y1
      have z2 : ∀ p : OneW w2.drew, p.val.cell? ⟨B, 1, none⟩ = some (.int .i64 8) := fun p => by rw [p.is]; exact y2
      have z3 : ∀ p : OneW w2.drew, p.val.cell? ⟨r, 1, none⟩ = some (.int .i64 s1.fr) := fun p => by rw [p.is]; exact y3
      have q1 : ∀ p : OneW w2.drew, Calls Tryd.prog 29 #[.int .i64 (v : Int), .int .i64 0, .int .i64 8] p.val fun e w'' => e = .returned (.int .i64 E) ∧ ∃ p' : OneW w2.drew, w'' = p'.val := fun p => (hwi p.val).mono fun e w' ⟨he, hw⟩ => ⟨he, p, hw⟩
      have nek : Nonempty (OneW w2.drew) := ⟨⟨w2.drew, rfl⟩⟩
      clear hwi y0 y1 y2 y3
      refine wp_region_last (α := OneW w2.drew) 13 OneW.val (by kernel_rfl) (by kernel_rfl) (by kernel_rfl) rfl rfl ⟨w2.drew, rfl⟩ rfl ?_
      simp only [List.take_succ_cons, List.take_zero]
      repeat (go_big_quiet_step (first | with_reducible exact q1 _))
      refine wpQuiet_nil ?_
      rintro w' ⟨p, rfl⟩
      rw [p.is]
      clear z0 z1 z2 z3 q1 nek
      go_wp2_with (go_at_call 68; refine hfl.mono ?_; rintro e wx ⟨rfl, ox⟩)
      go_roundg 1
      case rel => exact ⟨3, by omega, rfl, hd (HN2.out wx ox)⟩
      case measure => omega
    · obtain rfl : gk = 1 := by omega
      have ix : ∀ W, (Instr.index 58 (.agg #[.int .i64 1, .int .i64 256, .int .i64 2, .int .i64 1, .int .i64 64, .int .i64 1, .int .i64 0, .int .i64 8, .int .i64 1, .int .i64 0, .int .i64 4096, .int .i64 2]) (.int .i64 3)).run Tryd.prog W = .ok (.agg #[.int .i64 0, .int .i64 4096, .int .i64 2]) W := fun W => by kernel_rfl
      go_upto_region 5 with fail
      clear ix
      obtain ⟨wa, hwa⟩ : ∃ W, Hid (wr.alloc (.cells #[.int .i64 0, .int .i64 4096, .int .i64 2] 57) = W) := ⟨_, rfl⟩
      rw [hwa.out]
      have hba : Below wr.heap.size wr wa := by rw [← hwa.out]; exact below_al wr _
      have HB : Hid (wa.heap[wr.heap.size]? = some (.cells #[.int .i64 0, .int .i64 4096, .int .i64 2] 57 (0, 0))) := hd (by rw [← hwa.out]; exact heap_alloc_new wr _)
      have hgl := (Array.getElem?_eq_some_iff.1 HW.out.2).1
      have HG : Hid (wa.heap[G]? = some (.cells #[.int .i64 (cvN bs s 3 0), .int .i64 (cvN bs s 3 1), .int .i64 (cvN bs s 3 2), .int .i64 (cvN bs s 3 3)] 53 (0, 0))) := hd (by rw [hba.block G hgl]; exact HW.out.2)
      have O1 : Hid (ROut w r a cap bs (stN bs s 3) wa) := hd (HW.out.1.after hba)
      have hrw := HW.out.1.1.lt
      obtain ⟨B, hB⟩ : ∃ B, Hid (wr.heap.size = B) := ⟨_, rfl⟩
      rw [hB.out] at HB hgl hrw ⊢
      clear hwa hba hB HW
      have x2 := cell_of_row wa B 2 _ _ _ HB.out
      simp at x2
      have hs := small_any O1.out.1 2 ⟨by omega, by omega⟩
      have HN : Hid (∀ W1 W2, ROut wa r a cap bs (numS bs 2 (stN bs s 3)).2 W1 → ROut (W1.setCell ⟨G, 3, none⟩ (.int .i64 ((numS bs 2 (stN bs s 3)).1 : Nat))) r a cap bs (failS (numS bs 2 (stN bs s 3)).2 (rngE 0 4096 ((numS bs 2 (stN bs s 3)).1 : Nat)) (numS bs 2 (stN bs s 3)).2.fr) W2 → ROut w r a cap bs (stN bs s 4) W2 ∧ W2.heap[G]? = some (.cells #[.int .i64 (cvN bs s 4 0), .int .i64 (cvN bs s 4 1), .int .i64 (cvN bs s 4 2), .int .i64 (cvN bs s 4 3)] 53 (0, 0))) := hd (by
        intro W1 W2 o1 o2
        have o3 := (O1.out.trans o1).put H.out (Nat.le_of_eq hG.out) 3 (.int .i64 ((numS bs 2 (stN bs s 3)).1 : Nat))
        refine ⟨o3.trans o2, ?_⟩
        have e1 : W1.heap[G]? = _ := (o1.2.block G (Array.getElem?_eq_some_iff.1 HG.out).1 (by omega)).trans HG.out
        have e2 := heap_setCell_same W1 G 3 _ _ (.int .i64 ((numS bs 2 (stN bs s 3)).1 : Nat)) e1
        rw [o2.2.block G (Array.getElem?_eq_some_iff.1 e2).1 (by omega), e2]
        rfl)
      have HK : Hid (∀ W1, ROut wa r a cap bs (numS bs 2 (stN bs s 3)).2 W1 → W1.heap[G]? = some (.cells #[.int .i64 (cvN bs s 3 0), .int .i64 (cvN bs s 3 1), .int .i64 (cvN bs s 3 2), .int .i64 (cvN bs s 3 3)] 53 (0, 0)) ∧ W1.heap[B]? = some (.cells #[.int .i64 0, .int .i64 4096, .int .i64 2] 57 (0, 0)) ∧ ROut w r a cap bs (numS bs 2 (stN bs s 3)).2 W1) := hd (by
        intro W1 o1
        exact ⟨(o1.2.block G (Array.getElem?_eq_some_iff.1 HG.out).1 (by omega)).trans HG.out, (o1.2.block B (Array.getElem?_eq_some_iff.1 HB.out).1 (by omega)).trans HB.out, O1.out.trans o1⟩)
      have hlt := numS_lt (s := stN bs s 3) O1.out.1.byte 2 (by omega)
      have hwi := within_any ((numS bs 2 (stN bs s 3)).1 : Nat) 0 4096
      clear HB HG O1
      generalize rngE 0 4096 ((numS bs 2 (stN bs s 3)).1 : Nat) = E at *
      generalize (numS bs 2 (stN bs s 3)).1 = v at *
      generalize (numS bs 2 (stN bs s 3)).2 = s1 at *
      have hf : Hid (∀ W1, ROut wa r a cap bs s1 W1 → (∀ n, W1.cell? ⟨G, n, none⟩ = (#[.int .i64 (cvN bs s 3 0), .int .i64 (cvN bs s 3 1), .int .i64 (cvN bs s 3 2), .int .i64 (cvN bs s 3 3)] : Array Value)[n]? ∧ W1.frozen? ⟨G, n, none⟩ = false)) := hd (fun W1 o1 n => ⟨cell_of_row _ _ _ _ _ _ (HK.out W1 o1).1, by simp [World.frozen?, (HK.out W1 o1).1]⟩)
      go_upto_region 6 with (go_at_call 67; refine hs.mono ?_; rintro e w1 ⟨rfl, o1⟩; have g0 := ((hf.out w1 o1) 3).1; have g1 := ((hf.out w1 o1) 3).2; replace o1 := hd o1; simp at g0)
      obtain ⟨w2, hw2⟩ : ∃ W, Hid (w1.setCell ⟨G, 3, none⟩ (.int .i64 (v : Int)) = W) := ⟨_, rfl⟩
      rw [hw2.out]
      have o2 : ROut w r a cap bs s1 w2 := by rw [← hw2.out]; exact (HK.out w1 o1.out).2.2.put H.out (Nat.le_of_eq hG.out) _ _
      have y0 : w2.cell? ⟨G, 3, none⟩ = some (.int .i64 (v : Int)) := by
        rw [← hw2.out, cell_of_row _ _ _ _ _ _ (heap_setCell_same w1 G 3 _ _ _ (HK.out w1 o1.out).1)]
        rfl
      have hB2 : w2.heap[B]? = some (.cells #[.int .i64 0, .int .i64 4096, .int .i64 2] 57 (0, 0)) := by
        rw [← hw2.out, Below.heap_setCell _ _ _ _ (by simp only; omega)]
        exact (HK.out w1 o1.out).2.1
      have y1 := cell_of_row w2 B 0 _ _ _ hB2
      have y2 := cell_of_row w2 B 1 _ _ _ hB2
      simp at y1 y2
      have y3 := o2.1.cells.2.1
      have hfl : Calls Tryd.prog 68 #[.pointer (some ⟨r, 0, none⟩), .int .i64 E, .int .i64 s1.fr] w2.drew fun e w' => e = .returned (.tuple #[]) ∧ ROut w2 r a cap bs (failS s1 E s1.fr) w' :=
        (fail_any (o2.1.below (below_draw w2 1)) E s1.fr).mono fun e w' ⟨he, ho⟩ => ⟨he, ho.1, (Mod.of_below _ (below_draw w2 1)).trans ho.2 (fun _ h => .inl h)⟩
      have HN2 : Hid (∀ W2, ROut w2 r a cap bs (failS s1 E s1.fr) W2 → _) := hd (fun W2 ho => HN.out w1 W2 o1.out (by rw [hw2.out]; exact ho))
      clear HN HK hf o1 hw2 o2 hB2 g0 g1
      have z0 : ∀ p : OneW w2.drew, p.val.cell? ⟨G, 3, none⟩ = some (.int .i64 (v : Int)) := fun p => by rw [p.is]; exact y0
      have z1 : ∀ p : OneW w2.drew, p.val.cell? ⟨B, 0, none⟩ = some (.int .i64 0) := fun p => by rw [p.is]; exact y1
      have z2 : ∀ p : OneW w2.drew, p.val.cell? ⟨B, 1, none⟩ = some (.int .i64 4096) := fun p => by rw [p.is]; exact y2
      have z3 : ∀ p : OneW w2.drew, p.val.cell? ⟨r, 1, none⟩ = some (.int .i64 s1.fr) := fun p => by rw [p.is]; exact y3
      have q1 : ∀ p : OneW w2.drew, Calls Tryd.prog 29 #[.int .i64 (v : Int), .int .i64 0, .int .i64 4096] p.val fun e w'' => e = .returned (.int .i64 E) ∧ ∃ p' : OneW w2.drew, w'' = p'.val := fun p => (hwi p.val).mono fun e w' ⟨he, hw⟩ => ⟨he, p, hw⟩
      have nek : Nonempty (OneW w2.drew) := ⟨⟨w2.drew, rfl⟩⟩
      clear hwi y0 y1 y2 y3
      refine wp_region_last (α := OneW w2.drew) 13 OneW.val (by kernel_rfl) (by kernel_rfl) (by kernel_rfl) rfl rfl ⟨w2.drew, rfl⟩ rfl ?_
      simp only [List.take_succ_cons, List.take_zero]
      repeat (go_big_quiet_step (first | with_reducible exact q1 _))
      refine wpQuiet_nil ?_
      rintro w' ⟨p, rfl⟩
      rw [p.is]
      clear z0 z1 z2 z3 q1 nek
      go_wp2_with (go_at_call 68; refine hfl.mono ?_; rintro e wx ⟨rfl, ox⟩)
      go_roundg 0
      case rel => exact ⟨4, by omega, rfl, hd (HN2.out wx ox)⟩
      case measure => omega
    · obtain rfl : gk = 0 := by omega
      have z0 := cell_of_row wr G 0 _ _ _ HW.out.2
      have z1 := cell_of_row wr G 1 _ _ _ HW.out.2
      have z2 := cell_of_row wr G 2 _ _ _ HW.out.2
      have z3 := cell_of_row wr G 3 _ _ _ HW.out.2
      simp [cvN] at z0 z1 z2 z3
      have HR : Hid (ROut w r a cap bs (stN bs s 4) wr) := hd HW.out.1
      clear HW
      go_wp2_with fail
      go_region
      go_wp2_with fail
      (try simp only [Exit.inBlock, Exit.then]); refine bodyPost_ret (results_tmp4 rfl _ _ _) rfl ?_
      exact ⟨rfl, HR.out.after (below_draw wr 1)⟩
end
end Go.Proofs.YtmjokinagbpihaaDoor
