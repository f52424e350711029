/- Skeleton. -/
import Derived.Test.YtmjokinagbpihaaDoorQS2
import Derived.ChangeKeysEq
namespace Go.Proofs.YtmjokinagbpihaaDoor
open Go.RowKit

theorem info3s : (Tryd.prog.info? 3).isSome = true := by kernel_rfl
theorem cells3 : Tryd.prog.cellsOf 3 = 1 := by kernel_rfl
theorem part_int (xs : Array Value) (i : Nat) (v : Int) (h : xs[i]? = some (.int .i64 v)) (W : World) : (part 3 xs i).run Tryd.prog W = .ok (.int .i64 v) W := by
  unfold part
  simp [go_sem, h]
theorem eqItems_int (d : Nat) (xs ys : Array Value) (f g : Nat → Int) (W : World) : ∀ is : List Nat, (∀ i ∈ is, xs[i]? = some (.int .i64 (f i)) ∧ ys[i]? = some (.int .i64 (g i))) → (Op.eqItems (d + 1) 3 1 xs ys is).run Tryd.prog W = .ok (is.all fun i => f i == g i) W
  | [], _ => by simp [Op.eqItems]
  | i :: is, h => by
    have hv := h i (by simp)
    have ih := eqItems_int d xs ys f g W is (fun j hj => h j (by simp [hj]))
    simp only [Op.eqItems, Sem.run_bind, Nat.mul_one, part_int xs i _ hv.1, part_int ys i _ hv.2, Result.andThen_ok, run_equalIn_int W d 3 .i64 .i64 _ _ Tryd.underlying3]
    by_cases he : f i = g i
    · simpa [he] using ih
    · have : (f i == g i) = false := by simpa using he
      simp [this]
theorem eq4 (a0 a1 a2 a3 b0 b1 b2 b3 : Int) (n : Nat) (W : World) :
    (Op.equalIn (n + 2) 53 (.agg #[.int .i64 a0, .int .i64 a1, .int .i64 a2, .int .i64 a3]) (.agg #[.int .i64 b0, .int .i64 b1, .int .i64 b2, .int .i64 b3])).run Tryd.prog W = .ok (a0 == b0 && a1 == b1 && a2 == b2 && a3 == b3) W := by
  obtain ⟨i, hi⟩ := Option.isSome_iff_exists.1 info3s
  rw [run_equalIn_array W (n + 1) _ _ Tryd.underlying53 hi, cells3, eqItems_int n _ _ (fun i => [a0, a1, a2, a3].getD i 0) (fun i => [b0, b1, b2, b3].getD i 0) W _ (fun j hj => ?_)]
  · simp [List.range_succ, Bool.and_assoc]
  · have hj' : j < 4 := List.mem_range.1 hj
    have h : j = 0 ∨ j = 1 ∨ j = 2 ∨ j = 3 := by omega
    rcases h with rfl | rfl | rfl | rfl <;> exact ⟨rfl, rfl⟩

def nmE (c d : Cfg) : Bool := c.fuel == d.fuel && c.lane == d.lane && c.locks == d.locks && c.log == d.log
/-- The same but for programs? -/
def skB (c d : Cfg) : Bool := (c.labels == d.labels) && ((c.table == d.table) && (nmE c d && (parts c.procs == parts d.procs)))
end Go.Proofs.YtmjokinagbpihaaDoor
