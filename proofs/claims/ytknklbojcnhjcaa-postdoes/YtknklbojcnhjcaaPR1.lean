/- The document's side: is, Put, Drop. -/
import Derived.Test.YtknklbojcnhjcaaPWC
import Derived.Test.YtknklbojcnhjcaaPW6
import Derived.Test.YtknklbojcnhjcaaLR8
namespace Go.Proofs.Ytknklbojcnhjcaa
open Go.RowKit

section
variable {b : Nat} {F : Nat → Prop} {ss : List LS} {cur : Nat} {w : World}
theorem is_any (h : Ps w 65 91 66 b F ss cur) (lane : Int) :
    Calls Try.prog 49 #[.pointer (some ⟨b, 0, none⟩), .int .i64 lane] w fun e w' => e = .returned (.bool (isP ss.length lane)) ∧ w' = w := by
  obtain ⟨a, cap, bs, Fs, h, -, -⟩ := h
  obtain ⟨k0, k1⟩ := h.cells
  obtain ⟨n, hn⟩ : ∃ n, Hid (ss.length = n) := ⟨_, rfl⟩
  rw [hn.out] at k0 ⊢
  clear h
  by_cases h0 : 0 ≤ lane
  · by_cases h1 : lane < (n : Int)
    · rw [show isP n lane = true by simp [isP]; omega]
      go_enter Try.func49, Try.ntmps49
      go_wp2
      go_ret
      exact ⟨rfl, rfl⟩
    · rw [show isP n lane = false by simp [isP]; omega]
      have h1' : decide (lane < (n : Int)) = false := by simp; omega
      clear h1
      go_enter Try.func49, Try.ntmps49
      go_wp2
      go_ret
      exact ⟨rfl, rfl⟩
  · rw [show isP n lane = false by simp [isP]; omega]
    have h0' : decide (0 ≤ lane) = false := by simp; omega
    have h0'' : lane < 0 := by omega
    clear h0
    go_enter Try.func49, Try.ntmps49
    go_wp2
    go_ret
    exact ⟨rfl, rfl⟩

end
section
variable {b : Nat} {F : Nat → Prop} {ss : List LS} {cur : Nat} {w : World}
set_option maxRecDepth 100000 in
theorem rpput_any (h : Ps w 65 91 66 b F ss cur) (hg : GoodP ss cur) (lane v : Int) :
    Calls Try.prog 25 #[.pointer (some ⟨b, 0, none⟩), .int .i64 lane, .int .i64 v] w fun e w' => e = .returned (.int .i64 (putP ss lane v).1) ∧ PsOut w 65 91 66 b F (putP ss lane v).2 cur w' := by
  have hh := is_any h lane
  cases hb : isP ss.length lane with
  | false =>
    rw [show putP ss lane v = (2, ss) by unfold putP; rw [hb]; rfl]
    rw [hb] at hh
    have HO := hd (PsOut.same h (below_same w))
    clear h hg
    simp only
    go_enter Try.func25, Try.ntmps25
    go_wp2_with (first | (go_at_call 49; refine hh.mono ?_; rintro e1 w1 ⟨rfl, rfl⟩))
    go_ret
    exact ⟨rfl, HO.out⟩
  | true =>
    have hl := isP_yes hb
    obtain ⟨i, rfl⟩ : ∃ i : Nat, lane = (i : Int) := ⟨lane.toNat, by omega⟩
    have hi : i < ss.length := by omega
    rw [show putP ss (i : Int) v = ((putL (lnOf ss i) v).1, ss.set i (putL (lnOf ss i) v).2) by unfold putP; rw [hb, Int.toNat_natCast]; rfl]
    rw [hb] at hh
    obtain ⟨a, cap, bs, Fs, h, hF, -⟩ := h
    obtain ⟨k0, k1⟩ := h.cells
    obtain ⟨g, rfl, kp⟩ := h.ptr i hi
    have hp := rput_any (h.lns i hi) (hg.at hi) v
    have HO := hd fun (w2 : World) (ho : LnOut w 91 (bs.getD i 0) (Fs i) (putL (lnOf ss i) v).2 w2) => (show PsOut w 65 91 66 b F (ss.set i (putL (lnOf ss i) v).2) cur w2 by
      obtain ⟨Fs2, h2⟩ := h.to.lane hi ho
      exact h2.out (by rw [List.length_set]; exact hF))
    obtain ⟨n, hn⟩ : ∃ n, Hid (ss.length = n) := ⟨_, rfl⟩
    have hi' : (i : Int) < (n : Int) := by rw [← hn.out]; omega
    rw [hn.out] at k0 hi
    obtain ⟨r, hr⟩ : ∃ r, Hid (putL (lnOf ss i) v = r) := ⟨_, rfl⟩
    obtain ⟨p, hpb⟩ : ∃ p, Hid (bs.getD i 0 = p) := ⟨_, rfl⟩
    rw [hr.out, hpb.out] at HO hp
    rw [hr.out]
    rw [hpb.out] at kp
    clear h hg hl hb
    simp only
    go_enter Try.func25, Try.ntmps25
    go_wp2_with (first | (go_at_call 49; refine hh.mono ?_; rintro e1 w1 ⟨rfl, rfl⟩) | (go_at_call 50; refine hp.mono ?_; rintro e2 w2 ⟨rfl, ho⟩))
    go_ret
    exact ⟨rfl, HO.out _ ho⟩
set_option maxRecDepth 100000 in
theorem rpdrop_any (h : Ps w 65 91 66 b F ss cur) (hg : GoodP ss cur) (lane : Int) :
    Calls Try.prog 27 #[.pointer (some ⟨b, 0, none⟩), .int .i64 lane] w fun e w' => e = .returned (.tuple #[]) ∧ PsOut w 65 91 66 b F (dropP ss lane) cur w' := by
  have hh := is_any h lane
  cases hb : isP ss.length lane with
  | false =>
    rw [show dropP ss lane = ss by unfold dropP; rw [hb]; rfl]
    rw [hb] at hh
    have HO := hd (PsOut.same h (below_same w))
    clear h hg
    go_enter Try.func27, Try.ntmps27
    go_wp2_with (first | (go_at_call 49; refine hh.mono ?_; rintro e1 w1 ⟨rfl, rfl⟩))
    refine bodyPost_end (results_none rfl _ _ _) rfl ?_
    exact ⟨rfl, HO.out⟩
  | true =>
    have hl := isP_yes hb
    obtain ⟨i, rfl⟩ : ∃ i : Nat, lane = (i : Int) := ⟨lane.toNat, by omega⟩
    have hi : i < ss.length := by omega
    rw [show dropP ss (i : Int) = ss.set i (dropL (lnOf ss i)) by unfold dropP; rw [hb, Int.toNat_natCast]; rfl]
    rw [hb] at hh
    obtain ⟨a, cap, bs, Fs, h, hF, -⟩ := h
    obtain ⟨k0, k1⟩ := h.cells
    obtain ⟨g, rfl, kp⟩ := h.ptr i hi
    have hp := rdrop_any (h.lns i hi) (hg.at hi)
    have HO := hd fun (w2 : World) (ho : LnOut w 91 (bs.getD i 0) (Fs i) (dropL (lnOf ss i)) w2) => (show PsOut w 65 91 66 b F (ss.set i (dropL (lnOf ss i))) cur w2 by
      obtain ⟨Fs2, h2⟩ := h.to.lane hi ho
      exact h2.out (by rw [List.length_set]; exact hF))
    obtain ⟨n, hn⟩ : ∃ n, Hid (ss.length = n) := ⟨_, rfl⟩
    have hi' : (i : Int) < (n : Int) := by rw [← hn.out]; omega
    rw [hn.out] at k0 hi
    obtain ⟨p, hpb⟩ : ∃ p, Hid (bs.getD i 0 = p) := ⟨_, rfl⟩
    rw [hpb.out] at HO hp kp
    clear h hg hl hb
    go_enter Try.func27, Try.ntmps27
    go_wp2_with (first | (go_at_call 49; refine hh.mono ?_; rintro e1 w1 ⟨rfl, rfl⟩) | (go_at_call 52; refine hp.mono ?_; rintro e2 w2 ⟨rfl, ho⟩))
    refine bodyPost_end (results_none rfl _ _ _) rfl ?_
    exact ⟨rfl, HO.out _ ho⟩
end
end Go.Proofs.Ytknklbojcnhjcaa
