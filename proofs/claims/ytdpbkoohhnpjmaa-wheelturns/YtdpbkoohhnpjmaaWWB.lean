/- slices.SortFunc of a row of things. -/
import Derived.Test.YtdpbkoohhnpjmaaWShelf
import Derived.Test.YtdpbkoohhnpjmaaWWA
namespace Go.Proofs.Ytdpbkoohhnpjmaa
open Go.RowKit Go.Sort Go.Shelf Go.Maps

def encL (t : Th) : List Value := [.int .i64 t.1, .int .i64 t.2]
theorem ltT_of (x y : Th) : ltOf cfT x y = decide (ltT x y) := cfT_lt x y
theorem swoT : SWO (ltOf cfT) where
  irrefl x := by rw [ltT_of]; simpa using ltT_irrefl x
  trans x y z h1 h2 := by
    rw [ltT_of] at *
    simp only [decide_eq_true_eq] at *
    exact ltT_trans h1 h2
  ntrans x y z h1 h2 := by
    rw [ltT_of] at *
    simp only [decide_eq_false_iff_not] at *
    exact leT_trans h2 h1
theorem cmpLaysT (blk off size : Nat) (w : World) : CmpLays Try.prog 29 #[] encL 2 cfT blk off size w :=
  fun _ _ _ _ x y => compare_any x y _

theorem flat_at (d : Array Th) (i : Nat) (hi : i < d.size) : (flatK encL 2 d)[i * 2]! = .int .i64 (tAt d.toList i).1 ∧ (flatK encL 2 d)[i * 2 + 1]! = .int .i64 (tAt d.toList i).2 := by
  have e : d[i]! = tAt d.toList i := by
    unfold tAt
    rw [List.getD_eq_getElem?_getD, Array.getElem?_toList, Array.getElem!_eq_getD, Array.getD_eq_getD_getElem?]
    rfl
  constructor
  · rw [get_flatK _ _ _ _ (by omega), show i * 2 / 2 = i by omega, show i * 2 % 2 = 0 by omega, e]
    rfl
  · rw [get_flatK _ _ _ _ (by omega), show (i * 2 + 1) / 2 = i by omega, show (i * 2 + 1) % 2 = 1 by omega, e]
    rfl
theorem flat_get (d : Array Th) (j : Nat) (hj : j < d.size * 2) : (wC d.toList)[j]? = some (flatK encL 2 d)[j]! := by
  have h := flat_at d (j / 2) (by omega)
  have k := wC_at d.toList (j / 2) (by simp; omega)
  rcases Nat.mod_two_eq_zero_or_one j with e | e
  · rw [show j = j / 2 * 2 by omega, h.1]
    exact k.1
  · rw [show j = j / 2 * 2 + 1 by omega, h.2]
    exact k.2
theorem holds_row {w : World} {e : TypeId} {g n c : Nat} {d : Array Th} (h : Row w e 2 (some ⟨g, 0, none⟩) n c (wC d.toList)) : HoldsK encL 2 w g 0 d := fun j hj => by
  rw [size_flatK] at hj
  have hl := h.len
  rw [wC_len] at hl
  simp only [Array.length_toList] at hl
  obtain ⟨g', e', hc⟩ := h.cell j (by omega)
  cases e'
  refine ⟨?_, h.free (0 + j) g rfl⟩
  rw [Nat.zero_add, hc, flat_get d j hj]
  rfl
/-- What the sort leaves. -/
theorem row_sorted {w : World} {e : TypeId} {g n c m : Nat} {d d' : Array Th} {os : Array Obj} (h : Row w e 2 (some ⟨g, 0, none⟩) n c (wC d.toList)) (hs : d'.size = d.size) :
    Row (sortWorldK encL 2 w g 0 m d' os) e 2 (some ⟨g, 0, none⟩) n c (wC d'.toList) ∧ Mod (fun k => k = g) w (sortWorldK encL 2 w g 0 m d' os) := by
  have hH := holds_row h
  have hlt := h.lt g rfl
  have hh := holdsK_sortWorldK encL 2 w g 0 m d d' os hlt hH hs
  have hl := h.len
  rw [wC_len] at hl
  simp only [Array.length_toList] at hl
  obtain ⟨h1, h2, h3, ⟨h4, _⟩ | ⟨g', cur, h4, h5, h6, h7⟩⟩ := h
  · cases h4
  · cases h4
    have hg : (sortWorldK encL 2 w g 0 m d' os).heap[g]? = some (.cells (putCells id 0 (flatK encL 2 d') cur) e (0, 0)) := by
      unfold sortWorldK putRowK putRow
      rw [heap_grow_old _ _ (by simpa [mapBlock, ahead] using hlt)]
      simp [mapBlock, Array.getElem?_modify, h5, onCells]
    refine ⟨⟨by rw [wC_len]; simp; omega, h2, h3, .inr ⟨g, _, rfl, hg, by simpa [putCells] using h6, ?_⟩⟩, ?_⟩
    · apply List.ext_getElem?
      intro j
      rw [List.getElem?_take]
      by_cases hj : j < n * 2
      · rw [if_pos hj]
        have := (hh j (by rw [size_flatK]; omega)).1
        rw [Nat.zero_add, cell_of_row _ _ _ _ _ _ hg] at this
        rw [flat_get d' j (by omega)]
        simpa using this
      · rw [if_neg hj, List.getElem?_eq_none (by rw [wC_len]; simp; omega)]
    · refine ⟨rfl, rfl, rfl, by simp [sortWorldK, putRowK, putRow, mapBlock], fun k hk hn => ?_⟩
      unfold sortWorldK putRowK putRow
      rw [heap_grow_old _ _ (by simpa [mapBlock, ahead] using hk)]
      simp only [mapBlock, Array.getElem?_modify]
      rw [if_neg (fun e => hn e.symm)]
      rfl

theorem isAggT (w : World) : (isAgg 60).run Try.prog w = .ok true w := Try.isAgg60 w
theorem sizeOfT (w : World) : (Go.sizeOf 60).run Try.prog w = .ok 2 w := Try.sizeOf60 w

/-- A row sorted: all of them, rising. -/
theorem sort_row {w : World} {g c : Nat} {xs : List Th} (h : Row w 60 2 (some ⟨g, 0, none⟩) xs.length c (wC xs)) (hn : xs.length ≤ 8000000000000) :
    Calls Try.prog 34 #[.slice (some ⟨g, 0, none⟩) xs.length c, .func (.func 29) #[] #[]] w fun e w' => e = .returned (.tuple #[]) ∧ ∃ ys, Row w' 60 2 (some ⟨g, 0, none⟩) xs.length c (wC ys) ∧ ys.length = xs.length ∧ (∀ x, x ∈ ys ↔ x ∈ xs) ∧ Heap (tAt ys) ys.length ∧ Mod (fun k => k = g) w w' := by
  have eg : ∀ args w, (callFunc 29 args).run Try.prog w = .ok (.enter 29 args) w := enters_of Try.func29 (by kernel_rfl) rfl
  have hcon := AnyQ.slices_SortFunc sortT 2 isAggT sizeOfT encL (fun _ => rfl) (fun x v hv => by simp [encL] at hv; rcases hv with rfl | rfl <;> rfl) cfT swoT 29 #[] g 0 c xs.toArray w eg (cmpLaysT g 0 xs.toArray.size w) (holds_row h) (h.lt g rfl) (by simp; omega)
  change Calls Try.prog 34 _ _ _ at hcon
  refine hcon.mono ?_
  rintro e w' ⟨rfl, d', n, os, hp, hs, rfl⟩
  have hsz : d'.size = xs.toArray.size := hp.1
  obtain ⟨r1, r2⟩ := row_sorted (m := n) (os := os) (d := xs.toArray) (d' := d') h hsz
  have hpm : d'.toList.Perm xs := by
    have := hp.2.2
    rw [Array.extract_eq_self_of_le (by rw [← hsz]; exact Nat.le_refl _), Array.extract_eq_self_of_le (Nat.le_refl _)] at this
    simpa using this
  refine ⟨rfl, d'.toList, r1, by simpa using hsz, fun x => hpm.mem_iff, Heap.sorted (fun i j hij hj => ?_), r2⟩
  have hj' : j < d'.size := by simpa using hj
  have := hs i j (Nat.zero_le _) hij (by rw [← hsz]; exact hj')
  rw [ltT_of] at this
  have e : ∀ i, i < d'.size → d'[i]! = tAt d'.toList i := fun i hi => by
    unfold tAt
    rw [List.getD_eq_getElem?_getD, Array.getElem?_toList, Array.getElem!_eq_getD, Array.getD_eq_getD_getElem?]
    rfl
  rw [e j hj', e i (by omega)] at this
  simpa using this
end Go.Proofs.Ytdpbkoohhnpjmaa
