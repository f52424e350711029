/- What the document's floats give. -/
import Derived.Test.YtalaajniammggaaGreatDoorYAi
import Derived.Test.YtalaajniammggaaGreatDoorYPg
import Derived.Test.YtalaajniammggaaGreatDoorYRa
namespace Go.Proofs.YtalaajniammggaaGreatDoor
open Go.RowKit
theorem denv : DEnv env where
 pr v w := rprint_any v w
 pa s w := by
  refine (rparse_any s w).mono ?_
  rintro e w' ⟨v, rfl, hv, hb⟩
  rcases hv with ⟨rfl, hn⟩ | ⟨b, rfl, hb1, hp⟩
  ·exact ⟨0, 4, .inl ⟨by decide, fun u _ he => hn (wd u) (wd_lt u) he⟩, rfl, hb⟩
  ·refine ⟨wrap64 (b : Int), 0, .inr ⟨?_, rfl, ?_⟩, rfl, hb⟩
   ·unfold InR wrap64
    omega
   ·show printL (wd (wrap64 (b : Int))) = _
    have e : wd (wrap64 (b : Int)) = b := by
     unfold wd wrap64
     rw [IntKind.wrap_u64]
     omega
    rw [e]
    exact hp
end Go.Proofs.YtalaajniammggaaGreatDoor
