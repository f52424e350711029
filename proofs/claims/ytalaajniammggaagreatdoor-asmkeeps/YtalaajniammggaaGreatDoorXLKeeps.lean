/- AsmKeeps returns true, for any program and text: what is handed in stays, room and all, and what came out is its owner's; the variables that its road names are tied to the text of the program, and to the state that the runs hand in -/
import Derived.Test.YtalaajniammggaaGreatDoorTie
import Derived.Test.YtalaajniammggaaGreatDoorCards
import Derived.Test.YtalaajniammggaaGreatDoorXLK1
import Derived.SevenTiedAt
namespace Go.Proofs.YtalaajniammggaaGreatDoor
open Go.ChangeShapes Go.WideShapes Go.ChangeAt Go.RowKit

theorem kJ1 : (Rows.asmKeepsRow.inPlace == Tryz.prog.inPlace 8) = true := by kernel_rfl
theorem kJ2 : (Rows.asmKeepsRow.unfollowed == Tryz.prog.unfollowed 8) = true := by kernel_rfl
theorem kJ3 : (Rows.asmKeepsRow.recurses == Tryz.prog.recurses 8) = true := by kernel_rfl
theorem kJ4 : (Rows.asmKeepsRow.named == Tryz.prog.varsNamed 8) = true := by kernel_rfl
theorem kJ5 : joinedFacts Tryz.prog 8 Tryz.f8 Rows.asmKeepsSpec Rows.asmKeepsRow = true := by
  unfold joinedFacts
  rw [kJ1, kJ2, kJ3, kJ4]
  kernel_rfl
theorem kJ6 : Tryz.prog.funcNamed Rows.asmKeepsRow.func = some 8 := by kernel_rfl
theorem asmKeeps_row : Rows.AsmKeepsSaid :=
  OpenClaim.holds_of_wide 8 Tryz.f8 rfl rfl rfl rfl rfl rfl rfl ⟨rfl, rfl, rfl, rfl, rfl⟩ rfl rfl rfl rfl rfl kJ6 Tryz.func8 kJ5
    (of_decide_eq_true (by kernel_rfl)) (by unfold Func.isWrapper; first | (rw [if_pos (by decide +kernel)]; kernel_rfl) | (rw [if_neg (by decide +kernel)]; exact ⟨rfl, rfl⟩))
    (fun os started H enc _ => asmKeeps_lifted os started H enc)

theorem asmKeeps_holds : Rows.AsmKeepsCardSaid :=
  Claim7.holds_tied_plain_at .later [] [.data, .data, .widerDeep, .widerDeep, .data, .data, .data, .data, .data, .sentinel, .sentinel, .data, .data, .pinned, .pinned] true (true, "d2d24fd9cb0ed455e60705b2089f4961622add1e29c4d926d0b2e875b95e5529") true
    asmKeeps_row (fun _ h => by cases h) (by kernel_rfl) (fun _ h => by cases h) asmKeeps_row_tie rfl ⟨rfl, rfl⟩ (by kernel_rfl) rfl
    (fun f fn hf hfn => by
      obtain rfl : f = 8 := Option.some.inj (kJ6.symm.trans hf) |>.symm
      obtain rfl : fn = Tryz.f8 := (Option.some.inj (Tryz.func8.symm.trans hfn)).symm
      exact ⟨by kernel_rfl, fun j t ht => by
        rw [Tryz.params8] at ht
        have hm : t ∈ [23, 9] := by simpa using Array.mem_of_getElem? ht
        have hall : ([23, 9].all fun u => !Tryz.prog.wantsStandIn u) = true := by kernel_rfl
        exact (show Tryz.prog.wantsStandIn t = false by simpa using List.all_eq_true.1 hall t hm)⟩)
    (by kernel_rfl)
#print axioms asmKeeps_holds
end Go.Proofs.YtalaajniammggaaGreatDoor
