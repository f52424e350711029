/- What the document fixes; ValidNames. -/
import Derived.Test.YtehapcoppghppaaDoorVW6
import Derived.Test.YtehapcoppghppaaDoorVM5
namespace Go.Proofs.YtehapcoppghppaaDoor
open Go.RowKit

set_option maxRecDepth 100000 in
theorem ins_any (o i : Int) (w : World) :
    Calls Tryd.prog 8 #[.int .i64 o, .int .i64 i] w fun e w' => e = .returned (insV (inI o i)) ∧ Below w.heap.size w w' := by
  go_enter Tryd.func8, Tryd.ntmps8
  go_wp2_with fail
  refine bodyPost_ret (v := insV (inI o i)) ?_ rfl ⟨rfl, ?_⟩
  · have hh := heap_alloc_new w (.cells #[.int .i64 o, .int .i64 0, .int .i64 0, .int .i64 0, .int .i64 i] 25)
    have c0 : (w.alloc (.cells #[.int .i64 o, .int .i64 0, .int .i64 0, .int .i64 0, .int .i64 i] 25)).cell? ⟨w.heap.size, 0, none⟩ = some (.int .i64 o) := by rw [cell_of_row _ _ _ _ _ _ hh]; rfl
    have c1 : (w.alloc (.cells #[.int .i64 o, .int .i64 0, .int .i64 0, .int .i64 0, .int .i64 i] 25)).cell? ⟨w.heap.size, 1, none⟩ = some (.int .i64 0) := by rw [cell_of_row _ _ _ _ _ _ hh]; rfl
    have c2 : (w.alloc (.cells #[.int .i64 o, .int .i64 0, .int .i64 0, .int .i64 0, .int .i64 i] 25)).cell? ⟨w.heap.size, 2, none⟩ = some (.int .i64 0) := by rw [cell_of_row _ _ _ _ _ _ hh]; rfl
    have c3 : (w.alloc (.cells #[.int .i64 o, .int .i64 0, .int .i64 0, .int .i64 0, .int .i64 i] 25)).cell? ⟨w.heap.size, 3, none⟩ = some (.int .i64 0) := by rw [cell_of_row _ _ _ _ _ _ hh]; rfl
    have c4 : (w.alloc (.cells #[.int .i64 o, .int .i64 0, .int .i64 0, .int .i64 0, .int .i64 i] 25)).cell? ⟨w.heap.size, 4, none⟩ = some (.int .i64 i) := by rw [cell_of_row _ _ _ _ _ _ hh]; rfl
    generalize w.alloc (.cells #[.int .i64 o, .int .i64 0, .int .i64 0, .int .i64 0, .int .i64 i] 25) = W at *
    clear hh
    simp [results, Tryd.results8, go_sem, insV, inI, c0, c1, c2, c3, c4]
  · exact (Below.refl _ _).alloc (Nat.le_refl _) _

/-- A program that lies in a new block. -/
theorem prg_new (w : World) (l : List Ins) (t : TypeId) : Prg (w.alloc (.cells (pCells l).toArray t)) (some ⟨w.heap.size, 0, none⟩) l := fun i hi => by
  refine ⟨w.heap.size, 0, rfl, ?_⟩
  have hh := heap_alloc_new w (.cells (pCells l).toArray t)
  have key : ∀ r, r < 5 → (w.alloc (.cells (pCells l).toArray t)).cell? ⟨w.heap.size, 0 + i * 5 + r, none⟩ = (insCells (l.getD i default))[r]? := fun r hr => by
    rw [cell_of_row _ _ _ _ _ _ hh, ← pCells_at l i r hi hr, Nat.zero_add]
    simp
  exact ⟨key 0 (by omega), key 1 (by omega), key 2 (by omega), key 3 (by omega), key 4 (by omega)⟩

set_option maxRecDepth 100000 in
set_option maxHeartbeats 2000000 in
theorem fixed_any (w : World) (hF : Fld w) : Calls Tryd.prog 7 #[] w fun e w' => e = .returned (.bool true) ∧ Below w.heap.size w w' := by
  have HF : Hid (Fld w) := hF
  have hI := fun (o i : Int) (W : World) => ins_any o i W
  unfold insV inI at hI
  have hLo := fun (a : Option Addr) (W : World) (hb : Below w.heap.size w W) (hP : Prg W a good) => longest_any a 5 good 2 W hP (HF.out.kept hb)
  have hC2 := fun (a : Option Addr) (W : World) (hb : Below w.heap.size w W) (hP : Prg W a good) => check8_any a 5 good 2 2 W hP (HF.out.kept hb)
  have hC3 := fun (a : Option Addr) (W : World) (hb : Below w.heap.size w W) (hP : Prg W a good) => check8_any a 5 good 2 3 W hP (HF.out.kept hb)
  have hCb := fun (a : Option Addr) (W : World) (hb : Below w.heap.size w W) (hP : Prg W a bad) => check8_any a 2 bad 2 5 W hP (HF.out.kept hb)
  rw [good_long] at hLo
  rw [good_check2] at hC2
  rw [good_check3] at hC3
  rw [bad_check] at hCb
  simp only [show good.length = 5 from rfl, show bad.length = 2 from rfl] at hLo hC2 hC3 hCb
  have B0 := Below.refl w.heap.size w
  clear hF
  go_enter Tryd.func7, Tryd.ntmps7
  simp only at hI
  go_wp2_with fail
  refine (hI _ _ _).mono ?_
  rintro e1 w1 ⟨rfl, b1⟩
  replace b1 := B0.trans (b1.mono B0.size)
  have B1 := b1
  clear b1 B0
  go_wp2_with fail
  refine (hI _ _ _).mono ?_
  rintro e2 w2 ⟨rfl, b2⟩
  replace b2 := B1.trans (b2.mono B1.size)
  have B2 := b2
  clear b2 B1
  go_wp2_with fail
  refine (hI _ _ _).mono ?_
  rintro e3 w3 ⟨rfl, b3⟩
  replace b3 := B2.trans (b3.mono B2.size)
  have B3 := b3
  clear b3 B2
  go_wp2_with fail
  refine (hI _ _ _).mono ?_
  rintro e4 w4 ⟨rfl, b4⟩
  replace b4 := B3.trans (b4.mono B3.size)
  have B4 := b4
  clear b4 B3
  go_wp2_with fail
  refine (hI _ _ _).mono ?_
  rintro e5 w5 ⟨rfl, b5⟩
  replace b5 := B4.trans (b5.mono B4.size)
  have B5 := b5
  clear b5 B4
  have P6 := prg_new w5 good 25
  have B6 := B5.alloc B5.size (.cells (pCells good).toArray 25)
  obtain ⟨w6, hw6⟩ : ∃ w6, Hid (w5.alloc (.cells (pCells good).toArray 25) = w6) := ⟨_, rfl⟩
  rw [hw6.out] at P6 B6
  have HP := hd P6
  have hA := hLo _ _ B6 P6
  clear hLo P6
  go_upto_region 2 with fail
  rw [show w5.alloc (.cells #[.int .i64 29, .int .i64 0, .int .i64 0, .int .i64 0, .int .i64 0, .int .i64 29, .int .i64 0, .int .i64 0, .int .i64 0, .int .i64 1, .int .i64 30, .int .i64 0, .int .i64 0, .int .i64 0, .int .i64 1, .int .i64 30, .int .i64 0, .int .i64 0, .int .i64 0, .int .i64 0, .int .i64 0, .int .i64 0, .int .i64 0, .int .i64 0, .int .i64 0] 25) = w6 from hw6.out]
  go_wp2_with fail
  refine hA.mono ?_
  rintro e7 w7 ⟨rfl, b7⟩
  have B7 := B6.trans (b7.mono B6.size)
  have hB := hC2 _ _ B7 (HP.out.kept b7)
  clear hA hC2
  go_wp2_with fail
  refine hB.mono ?_
  rintro e8 w8 ⟨rfl, b8⟩
  have B8 := B7.trans (b8.mono B7.size)
  replace b8 := b7.trans (b8.mono b7.size)
  clear hB b7
  go_wp2_with fail
  refine (hI _ _ _).mono ?_
  rintro e9 w9 ⟨rfl, b9⟩
  have B9 := B8.trans (b9.mono B8.size)
  replace b9 := b8.trans (b9.mono b8.size)
  clear b8
  go_wp2_with fail
  refine (hI _ _ _).mono ?_
  rintro e10 w10 ⟨rfl, b10⟩
  have B10 := B9.trans (b10.mono B9.size)
  replace b10 := b9.trans (b10.mono b9.size)
  clear b9
  have hC := hCb _ _ (B10.alloc B10.size _) (prg_new w10 bad 25)
  go_wp2_with fail
  refine hC.mono ?_
  rintro e11 w11 ⟨rfl, b11⟩
  have b12 := b10.alloc b10.size (.cells (pCells bad).toArray 25)
  have B12 := B10.alloc B10.size (.cells (pCells bad).toArray 25)
  have b13 := b12.trans (b11.mono b12.size)
  have B13 := B12.trans (b11.mono B12.size)
  have hD := hC3 _ _ B13 (HP.out.kept b13)
  clear hC hC3 hCb hI b12 b11 b10 B12
  go_wp2_with fail
  refine hD.mono ?_
  rintro e14 w14 ⟨rfl, b14⟩
  have B14 := B13.trans (b14.mono B13.size)
  clear hD
  go_wp2_with fail
  go_ret
  exact ⟨rfl, B14⟩

set_option maxRecDepth 100000 in
theorem validNames_walk (w : World) (hF : Fld w) : Calls Tryd.prog 3 #[] w fun e w' => e = .returned (.bool true) ∧ Below w.heap.size w w' := by
  have h := fixed_any w hF
  clear hF
  go_enter Tryd.func3, Tryd.ntmps3
  go_wp2_with fail
  refine h.mono ?_
  rintro e w1 ⟨rfl, b1⟩
  go_wp2_with fail
  go_ret
  exact ⟨rfl, b1⟩
end Go.Proofs.YtehapcoppghppaaDoor
