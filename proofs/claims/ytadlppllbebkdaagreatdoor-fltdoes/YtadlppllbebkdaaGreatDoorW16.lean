/- The document's whole numbers of any size: of, times. -/
import Derived.Test.YtadlppllbebkdaaGreatDoorW15
namespace Go.Proofs.YtadlppllbebkdaaGreatDoor
open Go.RowKit

/-- A number in memory. -/
def Num (w : World) (v : Value) (N : Nat) : Prop := ∃ l, Row w v l ∧ Norm l ∧ val l = N

theorem Num.kept {w w' : World} {v : Value} {N : Nat} (h : Num w v N) (hb : Below w.heap.size w w') : Num w' v N := by
  obtain ⟨l, h1, h2, h3⟩ := h
  exact ⟨l, h1.kept hb, h2, h3⟩

theorem wrap_u32 (x : Nat) : IntKind.u32.wrap (x : Int) = ((x % BB : Nat) : Int) := by
  rw [IntKind.wrap_u32]
  unfold BB
  omega

set_option maxRecDepth 100000 in
theorem of_any (x : Nat) (hx : x < 18446744073709551616) (w : World) :
    Calls Tryz.prog 43 #[.int .u64 x] w fun e w' => ∃ v, e = .returned v ∧ Num w' v x ∧ Below w.heap.size w w' := by
  have e1 : IntKind.u32.wrap (x : Int) = ((x % BB : Nat) : Int) := wrap_u32 x
  have e2 : IntKind.u32.wrap ((x : Int) / 4294967296) = ((x / BB : Nat) : Int) := by
    rw [IntKind.wrap_u32]; unfold BB; omega
  have hrow : Row (w.alloc (.cells #[.int .u32 (x % BB : Nat), .int .u32 (x / BB : Nat)] 70)) (.slice (some ⟨w.heap.size, 0, none⟩) 2 2) [x % BB, x / BB] := by
    refine ⟨_, 2, rfl, by simp, by omega, fun y hy => ?_, fun _ => ⟨w.heap.size, 0, rfl, fun i hi => ?_⟩⟩
    · unfold BB at hy ⊢; simp at hy; omega
    · match i, hi with
      | 0, _ => simp [go_sem]
      | 1, _ => simp [go_sem]
  have hT := trim_any _ _ (by simp) _ hrow
  have hv : val [x % BB, x / BB] = x := by simp [val]; unfold BB; omega
  rw [hv] at hT
  clear hrow hv
  go_enter Tryz.func43, Tryz.ntmps43
  go_wp2_with fail
  refine hT.mono ?_
  rintro e w1 ⟨v, l, rfl, rfl, h1, h2, h3⟩
  go_wp2
  go_ret
  exact ⟨v, rfl, ⟨l, h1, h3, h2⟩, (Below.refl _ w).alloc (Nat.le_refl _) _⟩
end Go.Proofs.YtadlppllbebkdaaGreatDoor
