/- A program read from its bytes. -/
import Derived.Test.YtmjokinagbpihaaDoorCW12
namespace Go.Proofs.YtmjokinagbpihaaDoor
open Go.RowKit

theorem info_ins : (Tryd.prog.info? 71).map (fun i => (i.zero, i.size, i.bytes)) = some (some (.agg #[.int .i64 0, .int .i64 0, .int .i64 0, .int .i64 0, .int .i64 0]), 5, 40) := by kernel_rfl

theorem decR_at {bs : List Nat} {n i : Nat} (hn : bs.length = 12 * n) (h256 : n ≤ 256) (hi : i < n) (hall : ∀ j, j < i → (wrong (getI bs (12 * j)) n 8).1 = 0) (hw : (wrong (getI bs (12 * i)) n 8).1 ≠ 0) :
    decR bs = ((wrong (getI bs (12 * i)) n 8).1, 12 * (i : Int) + (wrong (getI bs (12 * i)) n 8).2) := by
  unfold decR
  rw [if_neg (by omega), if_neg (by omega), show bs.length / 12 = n by omega, decE_at bs n n 0 i hi (fun j hj => by rw [Nat.zero_add]; exact hall j hj) (by rw [Nat.zero_add]; exact hw), Nat.zero_add]
theorem decR_none {bs : List Nat} {n : Nat} (hn : bs.length = 12 * n) (h256 : n ≤ 256) (hall : ∀ j, j < n → (wrong (getI bs (12 * j)) n 8).1 = 0) : decR bs = (0, 0) := by
  unfold decR
  rw [if_neg (by omega), if_neg (by omega), show bs.length / 12 = n by omega, decE_none bs n n 0 (fun j hj => by rw [Nat.zero_add]; exact hall j hj)]

theorem decL_snoc (bs : List Nat) (i : Nat) : decL bs (i + 1) = decL bs i ++ [getI bs (12 * i)] := by simp [decL, List.range_succ]

/-- What Decode of the bytes leaves. -/
def DecPost (w : World) (bs : List Nat) (e : Ending) (w' : World) : Prop :=
  ((decR bs).1 = 0 ∧ ∃ g cap', e = .returned (.tuple #[.slice (some ⟨g, 0, none⟩) (bs.length / 12) cap', .int .i64 0, .int .i64 0]) ∧ w'.ownsRow w.heap.size 71 5 (.slice (some ⟨g, 0, none⟩) (bs.length / 12) cap') (bs.length / 12) (pCells (decL bs (bs.length / 12))) ∧ Below w.heap.size w w') ∨
  ((decR bs).1 ≠ 0 ∧ e = .returned (.tuple #[.slice none 0 0, .int .i64 (decR bs).1, .int .i64 (decR bs).2]) ∧ Below w.heap.size w w')

end Go.Proofs.YtmjokinagbpihaaDoor
