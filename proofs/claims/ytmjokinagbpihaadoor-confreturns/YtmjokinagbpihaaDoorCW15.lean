/- Decode of any bytes. -/
import Derived.Test.YtmjokinagbpihaaDoorCW14
namespace Go.Proofs.YtmjokinagbpihaaDoor
open Go.RowKit

set_option maxRecDepth 100000 in
set_option maxHeartbeats 1000000 in
theorem decode_any (a : Option Addr) (cap : Nat) (bs : List Nat) (w : World) (hB : Byt w a bs) (hFl : Fld w) (hb : ∀ i, bs.getD i 0 < 256) (hcap : bs.length ≤ cap) :
    Calls Tryd.prog 80 #[.slice a bs.length cap] w (DecPost w bs) := by
  by_cases h1 : 3072 < bs.length
  · have HR : Hid (decR bs = (3, 3072)) := hd (by unfold decR; rw [if_pos h1])
    have d1 : (3072 : Int) < (bs.length : Int) := by omega
    generalize bs.length = L at *
    clear hB hFl hb hcap
    go_enter Tryd.func80, Tryd.ntmps80
    go_wp2_with fail
    go_ret3
    exact .inr ⟨by rw [HR.out]; simp, by rw [HR.out]; rfl, Below.refl _ _⟩
  · by_cases h2 : bs.length % 12 = 0
    · exact decode_in a cap (bs.length / 12) bs w hB hFl hb hcap (by omega) (by omega)
    · have HR : Hid (decR bs = ((5 : Int), (bs.length : Int))) := hd (by unfold decR; rw [if_neg h1, if_pos h2])
      have d1 : decide ((3072 : Int) < (bs.length : Int)) = false := by simp; omega
      have d2 : ((bs.length : Int) % 12 == 0) = false := by simp; omega
      generalize bs.length = L at *
      clear hB hFl hb hcap
      go_enter Tryd.func80, Tryd.ntmps80
      go_wp2_with fail
      go_ret3
      exact .inr ⟨by rw [HR.out]; simp, by rw [HR.out]; rfl, Below.refl _ _⟩

end Go.Proofs.YtmjokinagbpihaaDoor
