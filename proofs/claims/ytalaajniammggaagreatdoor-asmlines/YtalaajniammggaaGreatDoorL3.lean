/- AsmLines, where the first text is none. -/
import Derived.Test.YtalaajniammggaaGreatDoorL2
namespace Go.Proofs.YtalaajniammggaaGreatDoor
open Go.RowKit

set_option maxRecDepth 100000 in
set_option maxHeartbeats 4000000 in
theorem asmLines_bad (V : Env) (a : Option Addr) (cap n : Nat) (m : List Ins) (hN : m.length ≤ cap) (eM : min (n : Int) 300 = (m.length : Int)) (hfm : ∀ x ∈ m, InR x.imm) (x : Ins) (z : Int) (w : World) (hP : Prg w a m) (A : V.A w)
    (hbad : (mayL m 8).1 ≠ 0) :
    Calls Tryz.prog 7 #[.slice a n cap, insV x, .int .i64 z] w fun e w' => e = .returned (.bool true) ∧ Below w.heap.size w w' := by
  have B0 := Below.refl w.heap.size w
  have B1 : ∀ ob, Below w.heap.size w (w.alloc ob) := fun ob => B0.alloc (Nat.le_refl _) ob
  have hAw := fun (W : World) (h : Below w.heap.size w W) => awake_any V W (V.kept A h)
  have hPr := fun (W : World) (h : Below w.heap.size w W) => print_prog V a m.length m hfm W (hP.kept h) (V.kept A h)
  have eP : printA V.fp m = ([], (mayL m 8).1, (mayL m 8).2) := by unfold printA; rw [if_neg hbad]
  simp only [eP] at hPr
  generalize (mayL m 8).1 = E at *
  generalize (mayL m 8).2 = Q at *
  have dE : (E != 0) = true := by simpa using hbad
  clear hP hfm eP A
  generalize m.length = N at *
  unfold insV at *
  go_enter Tryz.func7, Tryz.ntmps7
  go_wp2_with fail
  refine (hAw _ (B1 _)).mono ?_
  rintro e w1 ⟨rfl, b1⟩
  have C1 := (B1 _).trans (b1.mono (B1 _).size)
  clear hAw
  go_wp2_with fail
  refine (hPr _ C1).mono ?_
  rintro e w2 ⟨rfl, b2⟩
  have C2 := C1.trans (b2.mono C1.size)
  clear hPr
  go_wp2_with fail
  go_ret
  exact ⟨rfl, C2⟩

set_option maxRecDepth 100000 in
set_option maxHeartbeats 4000000 in
theorem asmLines_none (V : Env) (a : Option Addr) (cap n : Nat) (eM : min (n : Int) 300 = 0) (x : Ins) (z : Int) (w : World) (hP : Prg w a []) (A : V.A w) :
    Calls Tryz.prog 7 #[.slice a n cap, insV x, .int .i64 z] w fun e w' => e = .returned (.bool true) ∧ Below w.heap.size w w' := by
  have B0 := Below.refl w.heap.size w
  have B1 : ∀ ob, Below w.heap.size w (w.alloc ob) := fun ob => B0.alloc (Nat.le_refl _) ob
  have hAw := fun (W : World) (h : Below w.heap.size w W) => awake_any V W (V.kept A h)
  have hPr := fun (W : World) (h : Below w.heap.size w W) => print_prog V a 0 [] (by simp) W (hP.kept h) (V.kept A h)
  have eP : printA V.fp [] = ([], 0, 0) := rfl
  simp only [eP] at hPr
  clear hP eP A
  unfold insV at *
  go_enter Tryz.func7, Tryz.ntmps7
  go_wp2_with fail
  refine (hAw _ (B1 _)).mono ?_
  rintro e w1 ⟨rfl, b1⟩
  have C1 := (B1 _).trans (b1.mono (B1 _).size)
  clear hAw
  go_wp2_with fail
  refine (hPr _ C1).mono ?_
  rintro e w2 ⟨rfl, b2⟩
  have C2 := C1.trans (b2.mono C1.size)
  clear hPr
  go_wp2_with fail
  go_ret
  exact ⟨rfl, C2⟩
end Go.Proofs.YtalaajniammggaaGreatDoor
