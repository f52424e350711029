/- Two queues. -/
import Derived.Test.YtjbmljheepomnaaVS0
import Derived.Test.YtjbmljheepomnaaVA1
namespace Go.Proofs.Ytjbmljheepomnaa
open Go.RowKit

theorem alike_ints {w : World} {va vb : Value} {xs ys : List Int} (hA : DeR 1 iE w va xs) (hB : DeR 1 iE w vb ys) : Calls Try.prog 37 #[va, vb, .func (.func 38) #[] #[]] w fun e w' => e = .returned (.bool (dec (xs = ys))) ∧ Below w.heap.size w w' :=
  alike_int hA hB (fun W _ ca cb x y e1 e2 => by
    obtain rfl : ca = [.int .i64 x] := e1
    obtain rfl : cb = [.int .i64 y] := e2
    exact equal_int x y W) (fun _ _ _ _ h => h)
theorem sameQueue_any {w : World} {va vb : Value} {xs ys : List Int} (hA : DeR 1 iE w va xs) (hB : DeR 1 iE w vb ys) : Calls Try.prog 40 #[va, vb] w fun e w' => e = .returned (.bool (dec (xs = ys))) ∧ Below w.heap.size w w' := by
  have h := alike_ints hA hB
  generalize dec (xs = ys) = R at *
  clear hA hB
  go_enter Try.func40, Try.ntmps40
  go_wp2_with (go_at_call 37; refine h.mono ?_; rintro e w1 ⟨rfl, b1⟩)
  go_ret
  exact ⟨rfl, b1⟩
end Go.Proofs.Ytjbmljheepomnaa
