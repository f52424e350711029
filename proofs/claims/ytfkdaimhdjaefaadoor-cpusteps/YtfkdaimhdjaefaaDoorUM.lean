/- Registers held against each other: those that are the same are. -/
import Derived.Test.YtfkdaimhdjaefaaDoorU1
import Derived.ChangeKeysEq
namespace Go.Proofs.YtfkdaimhdjaefaaDoor
open Go.RowKit

theorem info2 : (Tryd.prog.info? 2).isSome = true := by kernel_rfl
theorem cells64 : Tryd.prog.cellsOf 2 = 1 := by kernel_rfl
theorem part_int (xs : Array Value) (i : Nat) (v : Int) (h : xs[i]? = some (.int .i64 v)) (W : World) : (part 2 xs i).run Tryd.prog W = .ok (.int .i64 v) W := by
  unfold part
  simp [go_sem, h]
theorem eqItems_self (d : Nat) (xs : Array Value) (W : World) : ∀ is : List Nat, (∀ i ∈ is, ∃ v : Int, xs[i]? = some (.int .i64 v)) → (Op.eqItems (d + 1) 2 1 xs xs is).run Tryd.prog W = .ok true W
  | [], _ => by simp [Op.eqItems]
  | i :: is, h => by
    obtain ⟨v, hv⟩ := h i (by simp)
    have ih := eqItems_self d xs W is (fun j hj => h j (by simp [hj]))
    simp only [Op.eqItems, Sem.run_bind, Nat.mul_one, part_int xs i v hv, Result.andThen_ok, run_equalIn_int W d 2 .i64 .i64 v v Tryd.underlying2, beq_self_eq_true]
    simpa using ih
theorem eq8 (v0 v1 v2 v3 v4 v5 v6 v7 : Int) (W : World) :
    (Op.equalIn 9999 23 (.agg #[.int .i64 v0, .int .i64 v1, .int .i64 v2, .int .i64 v3, .int .i64 v4, .int .i64 v5, .int .i64 v6, .int .i64 v7]) (.agg #[.int .i64 v0, .int .i64 v1, .int .i64 v2, .int .i64 v3, .int .i64 v4, .int .i64 v5, .int .i64 v6, .int .i64 v7])).run Tryd.prog W = .ok true W := by
  obtain ⟨i, hi⟩ := Option.isSome_iff_exists.1 info2
  rw [show 9999 = 9998 + 1 from rfl, run_equalIn_array W 9998 _ _ Tryd.underlying23 hi, cells64]
  refine eqItems_self 9997 _ W _ (fun j hj => ?_)
  have hj' : j < 8 := List.mem_range.1 hj
  have h : j = 0 ∨ j = 1 ∨ j = 2 ∨ j = 3 ∨ j = 4 ∨ j = 5 ∨ j = 6 ∨ j = 7 := by omega
  rcases h with rfl | rfl | rfl | rfl | rfl | rfl | rfl | rfl <;> exact ⟨_, rfl⟩
theorem eq8' (v0 v1 v2 v3 v4 v5 v6 v7 : Int) (W : World) :
    (Op.equalIn 10000 23 (.agg #[.int .i64 v0, .int .i64 v1, .int .i64 v2, .int .i64 v3, .int .i64 v4, .int .i64 v5, .int .i64 v6, .int .i64 v7]) (.agg #[.int .i64 v0, .int .i64 v1, .int .i64 v2, .int .i64 v3, .int .i64 v4, .int .i64 v5, .int .i64 v6, .int .i64 v7])).run Tryd.prog W = .ok true W := by
  obtain ⟨i, hi⟩ := Option.isSome_iff_exists.1 info2
  rw [show 10000 = 9999 + 1 from rfl, run_equalIn_array W 9999 _ _ Tryd.underlying23 hi, cells64]
  refine eqItems_self 9998 _ W _ (fun j hj => ?_)
  have hj' : j < 8 := List.mem_range.1 hj
  have h : j = 0 ∨ j = 1 ∨ j = 2 ∨ j = 3 ∨ j = 4 ∨ j = 5 ∨ j = 6 ∨ j = 7 := by omega
  rcases h with rfl | rfl | rfl | rfl | rfl | rfl | rfl | rfl <;> exact ⟨_, rfl⟩
end Go.Proofs.YtfkdaimhdjaefaaDoor
