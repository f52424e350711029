/- AsmLines. -/
import Derived.Test.YtalaajniammggaaGreatDoorL4
namespace Go.Proofs.YtalaajniammggaaGreatDoor
open Go.RowKit

theorem asmLines_walk (V : Env) (a : Option Addr) (cap : Nat) (l : List Ins) (hlc : l.length ≤ cap) (hf : ∀ x ∈ l, InR x.imm) (x : Ins) (hx : InR x.imm) (z : Int) (w : World) (hP : Prg w a l) (A : V.A w) :
    Calls Tryz.prog 7 #[.slice a l.length cap, insV x, .int .i64 z] w fun e w' => e = .returned (.bool true) ∧ Below w.heap.size w w' := by
  have eM : min (l.length : Int) 300 = ((l.take 300).length : Int) := by rw [List.length_take]; omega
  have hN : (l.take 300).length ≤ cap := by rw [List.length_take]; omega
  have hPm : Prg w a (l.take 300) := hP.take _
  have hfm : ∀ x ∈ l.take 300, InR x.imm := fun x hx => hf x (List.mem_of_mem_take hx)
  generalize l.take 300 = m at *
  generalize l.length = n at *
  by_cases hok : (mayL m 8).1 = 0
  · rcases Nat.eq_zero_or_pos m.length with h0 | h0
    · rw [h0] at eM
      rw [List.length_eq_zero_iff] at h0
      subst h0
      exact asmLines_none V a cap n eM x z w hPm A
    · obtain ⟨b, off, rfl, _⟩ := hPm 0 h0
      exact asmLines_good V b off cap n m hN h0 eM hfm x hx z w hPm A hok
  · exact asmLines_bad V a cap n m hN eM hfm x z w hPm A hok
end Go.Proofs.YtalaajniammggaaGreatDoor
