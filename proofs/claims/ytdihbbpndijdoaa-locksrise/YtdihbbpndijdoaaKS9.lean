/- LocksRise, whatever comes in. -/
import Derived.Test.YtdihbbpndijdoaaKS8
namespace Go.Proofs.Ytdihbbpndijdoaa
open Go.RowKit Go.Maps

set_option maxRecDepth 100000 in
set_option maxHeartbeats 1000000 in
theorem rise_bad {w : World} {n : Int} (h : n < 0 ∨ 8 < n) {a : Option Addr} {ln c : Nat} :
    Calls Try.prog 6 #[.int .i64 n, .slice a ln c] w fun e w' => e = .returned (.bool true) ∧ Below w.heap.size w w' := by
  have hn1 := new_bad (w := w) h
  have hfx := fixed_any (w := w)
  by_cases h1 : n < 0
  · clear h
    go_enter Try.func6, Try.ntmps6
    go_wp2_with (first
      | (go_at_call 8; refine hn1.mono ?_; rintro e1 w1 ⟨rfl, rfl⟩)
      | (go_at_call 7; refine hfx.mono ?_; rintro e3 w3 ⟨rfl, b3⟩))
    go_ret
    exact ⟨rfl, b3⟩
  · have h2 : 8 < n := by omega
    have h1' : decide (n < 0) = false := by simpa using h1
    clear h h1
    go_enter Try.func6, Try.ntmps6
    go_wp2_with (first
      | (go_at_call 8; refine hn1.mono ?_; rintro e1 w1 ⟨rfl, rfl⟩)
      | (go_at_call 7; refine hfx.mono ?_; rintro e3 w3 ⟨rfl, b3⟩))
    go_ret
    exact ⟨rfl, b3⟩
theorem locksRise_walk {w : World} {n : Int} {a : Option Addr} {c : Nat} {sc : List Op3} (hR : Rd w a (opC sc)) (hlen : sc.length < 5900000000000) (hf : ∀ x ∈ sc, Fit64 x.2.2) :
    Calls Try.prog 6 #[.int .i64 n, .slice a sc.length c] w fun e w' => e = .returned (.bool true) ∧ Below w.heap.size w w' := by
  by_cases hn : n < 0 ∨ 8 < n
  · exact rise_bad hn
  · obtain ⟨m, rfl⟩ : ∃ m : Nat, n = (m : Int) := ⟨n.toNat, by omega⟩
    exact rise_good (by omega) hR (hd rfl) hlen hf
end Go.Proofs.Ytdihbbpndijdoaa
