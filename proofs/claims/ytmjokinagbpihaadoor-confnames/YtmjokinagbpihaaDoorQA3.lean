/- ConfNames: the law's own body. -/
import Derived.Test.YtmjokinagbpihaaDoorQA2
namespace Go.Proofs.YtmjokinagbpihaaDoor
open Go.RowKit

theorem confNames_any (w : World) (hF : Fld w) (hL : Lim w) :
    Calls Tryd.prog 3 #[] w fun e w' => e = .returned (.bool true) ∧ Below w.heap.size w w' := by
  have h1 := awake_any w hF hL
  clear hF hL
  go_enter Tryd.func3, Tryd.ntmps3
  go_wp2_with (go_at_call 9; refine h1.mono ?_; rintro e w1 ⟨rfl, b1⟩; replace b1 := hd b1)
  go_ret
  exact ⟨rfl, b1.out⟩
end Go.Proofs.YtmjokinagbpihaaDoor
