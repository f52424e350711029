/- Helpers of Same: two boxes, truth of an and, eight registers. -/
import Derived.Test.YtjbmljheepomnaaVE
import Derived.ChangeKeysEq
namespace Go.Proofs.Ytjbmljheepomnaa
open Go.RowKit

theorem dec_and (p q : Prop) : dec (p ∧ q) = (dec p && dec q) := by
  by_cases hp : p
  · by_cases hq : q
    · rw [dec_yes hp, dec_yes hq, dec_yes ⟨hp, hq⟩]; rfl
    · rw [dec_no hq, dec_no (fun h => hq h.2), Bool.and_false]
  · rw [dec_no hp, dec_no (fun h => hp h.1), Bool.false_and]
theorem two_box {w : World} (x y : Array Value) (T : TypeId) : (∀ V, Below ((w.alloc (.cells x T)).alloc (.cells y T)).heap.size ((w.alloc (.cells x T)).alloc (.cells y T)) V → V.heap[w.heap.size]? = some (.cells x T (0, 0)) ∧ V.heap[w.heap.size + 1]? = some (.cells y T (0, 0))) ∧ Below w.heap.size w ((w.alloc (.cells x T)).alloc (.cells y T)) := by
  have e : (w.alloc (.cells x T)).heap.size = w.heap.size + 1 := by simp
  have h1 := heap_alloc_new w (.cells x T)
  have h2 := heap_alloc_new (w.alloc (.cells x T)) (.cells y T)
  rw [e] at h2
  have h1' : ((w.alloc (.cells x T)).alloc (.cells y T)).heap[w.heap.size]? = _ := ((below_al (w.alloc (.cells x T)) (.cells y T)).block _ (by omega)).trans h1
  exact ⟨fun V hb => ⟨(hb.block _ (Array.getElem?_eq_some_iff.1 h1').1).trans h1', (hb.block _ (Array.getElem?_eq_some_iff.1 h2).1).trans h2⟩, (below_al w _).alloc (by omega) _⟩
theorem box_at {V : World} {B : Nat} {x : Array Value} {T : TypeId} (h : V.heap[B]? = some (.cells x T (0, 0))) {j : Nat} {u : Value} (hj : x[j]? = some u) : V.cell? ⟨B, j, none⟩ = some u := by rw [cell_of_row _ _ _ _ _ _ h]; exact hj
theorem info2 : (Try.prog.info? 2).isSome = true := by kernel_rfl
theorem cells64 : Try.prog.cellsOf 2 = 1 := by kernel_rfl
theorem part_int (xs : Array Value) (i : Nat) (v : Int) (h : xs[i]? = some (.int .i64 v)) (W : World) : (part 2 xs i).run Try.prog W = .ok (.int .i64 v) W := by
  unfold part
  simp [go_sem, h]
theorem eqItems_any (d : Nat) (xs ys : Array Value) (f g : Nat → Int) (W : World) : ∀ is : List Nat, (∀ i ∈ is, xs[i]? = some (.int .i64 (f i)) ∧ ys[i]? = some (.int .i64 (g i))) → (Op.eqItems (d + 1) 2 1 xs ys is).run Try.prog W = .ok (is.all fun i => f i == g i) W
  | [], _ => by simp [Op.eqItems]
  | i :: is, h => by
    obtain ⟨h1, h2⟩ := h i (by simp)
    have ih := eqItems_any d xs ys f g W is (fun j hj => h j (by simp [hj]))
    simp only [Op.eqItems, Sem.run_bind, Nat.mul_one, part_int xs i _ h1, part_int ys i _ h2, Result.andThen_ok, run_equalIn_int W d 2 .i64 .i64 (f i) (g i) Try.underlying2]
    cases hc : (f i == g i)
    · simp [hc]
    · simp [hc, ih]
theorem rg_dec (a b : Rg) : dec (a = b) = (dec (a.r0 = b.r0) && (dec (a.r1 = b.r1) && (dec (a.r2 = b.r2) && (dec (a.r3 = b.r3) && (dec (a.r4 = b.r4) && (dec (a.r5 = b.r5) && (dec (a.r6 = b.r6) && dec (a.r7 = b.r7)))))))) := by
  rw [← dec_and, ← dec_and, ← dec_and, ← dec_and, ← dec_and, ← dec_and, ← dec_and]
  obtain ⟨a0, a1, a2, a3, a4, a5, a6, a7⟩ := a
  obtain ⟨b0, b1, b2, b3, b4, b5, b6, b7⟩ := b
  exact dec_iff (by simp)
def rgA (a : Rg) : Array Value := #[.int .i64 a.r0, .int .i64 a.r1, .int .i64 a.r2, .int .i64 a.r3, .int .i64 a.r4, .int .i64 a.r5, .int .i64 a.r6, .int .i64 a.r7]
def rgN (a : Rg) (i : Nat) : Int := [a.r0, a.r1, a.r2, a.r3, a.r4, a.r5, a.r6, a.r7].getD i 0
theorem rg_at (a : Rg) (i : Nat) (h : i < 8) : (rgA a)[i]? = some (.int .i64 (rgN a i)) := by
  have h : i = 0 ∨ i = 1 ∨ i = 2 ∨ i = 3 ∨ i = 4 ∨ i = 5 ∨ i = 6 ∨ i = 7 := by omega
  rcases h with rfl | rfl | rfl | rfl | rfl | rfl | rfl | rfl <;> rfl
theorem eq8 (a b : Rg) (W : World) : (Op.equalIn 10000 46 (.agg (rgA a)) (.agg (rgA b))).run Try.prog W = .ok (dec (a = b)) W := by
  obtain ⟨i, hi⟩ := Option.isSome_iff_exists.1 info2
  rw [show 10000 = 9999 + 1 from rfl, run_equalIn_array W 9999 _ _ Try.underlying46 hi, cells64]
  rw [show 9999 = 9998 + 1 from rfl, eqItems_any 9998 _ _ (rgN a) (rgN b) W _ (fun j hj => ⟨rg_at a j (List.mem_range.1 hj), rg_at b j (List.mem_range.1 hj)⟩), rg_dec]
  simp only [← beq_dec]
  congr 1
  show (List.all [0, 1, 2, 3, 4, 5, 6, 7] fun i => rgN a i == rgN b i) = _
  simp [rgN]
end Go.Proofs.Ytjbmljheepomnaa
