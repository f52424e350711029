/- Put, Drop. -/
import Derived.Test.YtknklbojcnhjcaaPW2
namespace Go.Proofs.Ytknklbojcnhjcaa
open Go.RowKit

section
variable {b : Nat} {F : Nat → Prop} {ss : List LS} {cur : Nat} {w : World}
set_option maxRecDepth 100000 in
theorem pput_any (h : Ps w 59 89 60 b F ss cur) (hg : GoodP ss cur) (lane v : Int) :
    Calls Try.prog 17 #[.pointer (some ⟨b, 0, none⟩), .int .i64 lane, .int .i64 v] w fun e w' => e = .returned (.int .i64 (putP ss lane v).1) ∧ PsOut w 59 89 60 b F (putP ss lane v).2 cur w' := by
  have hh := has_any h lane
  cases hb : isP ss.length lane with
  | false =>
    rw [show putP ss lane v = (2, ss) by unfold putP; rw [hb]; rfl]
    rw [hb] at hh
    have HO := hd (PsOut.same h (below_same w))
    clear h hg
    simp only
    go_enter Try.func17, Try.ntmps17
    go_wp2_with (first | (go_at_call 37; refine hh.mono ?_; rintro e1 w1 ⟨rfl, rfl⟩))
    go_ret
    exact ⟨rfl, HO.out⟩
  | true =>
    have hl := isP_yes hb
    obtain ⟨i, rfl⟩ : ∃ i : Nat, lane = (i : Int) := ⟨lane.toNat, by omega⟩
    have hi : i < ss.length := by omega
    rw [show putP ss (i : Int) v = ((putL (lnOf ss i) v).1, ss.set i (putL (lnOf ss i) v).2) by unfold putP; rw [hb, Int.toNat_natCast]; rfl]
    rw [hb] at hh
    obtain ⟨a, cap, bs, Fs, h, hF, -⟩ := h
    obtain ⟨k0, k1⟩ := h.cells
    obtain ⟨g, rfl, kp⟩ := h.ptr i hi
    have hp := put_any (h.lns i hi) (hg.at hi) v
    have HO := hd fun (w2 : World) (ho : LnOut w 89 (bs.getD i 0) (Fs i) (putL (lnOf ss i) v).2 w2) => (show PsOut w 59 89 60 b F (ss.set i (putL (lnOf ss i) v).2) cur w2 by
      obtain ⟨Fs2, h2⟩ := h.to.lane hi ho
      exact h2.out (by rw [List.length_set]; exact hF))
    obtain ⟨n, hn⟩ : ∃ n, Hid (ss.length = n) := ⟨_, rfl⟩
    have hi' : (i : Int) < (n : Int) := by rw [← hn.out]; omega
    rw [hn.out] at k0 hi
    obtain ⟨r, hr⟩ : ∃ r, Hid (putL (lnOf ss i) v = r) := ⟨_, rfl⟩
    obtain ⟨p, hpb⟩ : ∃ p, Hid (bs.getD i 0 = p) := ⟨_, rfl⟩
    rw [hr.out, hpb.out] at HO hp
    rw [hr.out]
    rw [hpb.out] at kp
    clear h hg hl hb
    simp only
    go_enter Try.func17, Try.ntmps17
    go_wp2_with (first | (go_at_call 37; refine hh.mono ?_; rintro e1 w1 ⟨rfl, rfl⟩) | (go_at_call 38; refine hp.mono ?_; rintro e2 w2 ⟨rfl, ho⟩))
    go_ret
    exact ⟨rfl, HO.out _ ho⟩
set_option maxRecDepth 100000 in
theorem pdrop_any (h : Ps w 59 89 60 b F ss cur) (hg : GoodP ss cur) (lane : Int) :
    Calls Try.prog 26 #[.pointer (some ⟨b, 0, none⟩), .int .i64 lane] w fun e w' => e = .returned (.tuple #[]) ∧ PsOut w 59 89 60 b F (dropP ss lane) cur w' := by
  have hh := has_any h lane
  cases hb : isP ss.length lane with
  | false =>
    rw [show dropP ss lane = ss by unfold dropP; rw [hb]; rfl]
    rw [hb] at hh
    have HO := hd (PsOut.same h (below_same w))
    clear h hg
    go_enter Try.func26, Try.ntmps26
    go_wp2_with (first | (go_at_call 37; refine hh.mono ?_; rintro e1 w1 ⟨rfl, rfl⟩))
    refine bodyPost_end (results_none rfl _ _ _) rfl ?_
    exact ⟨rfl, HO.out⟩
  | true =>
    have hl := isP_yes hb
    obtain ⟨i, rfl⟩ : ∃ i : Nat, lane = (i : Int) := ⟨lane.toNat, by omega⟩
    have hi : i < ss.length := by omega
    rw [show dropP ss (i : Int) = ss.set i (dropL (lnOf ss i)) by unfold dropP; rw [hb, Int.toNat_natCast]; rfl]
    rw [hb] at hh
    obtain ⟨a, cap, bs, Fs, h, hF, -⟩ := h
    obtain ⟨k0, k1⟩ := h.cells
    obtain ⟨g, rfl, kp⟩ := h.ptr i hi
    have hp := drop_any (h.lns i hi) (hg.at hi)
    have HO := hd fun (w2 : World) (ho : LnOut w 89 (bs.getD i 0) (Fs i) (dropL (lnOf ss i)) w2) => (show PsOut w 59 89 60 b F (ss.set i (dropL (lnOf ss i))) cur w2 by
      obtain ⟨Fs2, h2⟩ := h.to.lane hi ho
      exact h2.out (by rw [List.length_set]; exact hF))
    obtain ⟨n, hn⟩ : ∃ n, Hid (ss.length = n) := ⟨_, rfl⟩
    have hi' : (i : Int) < (n : Int) := by rw [← hn.out]; omega
    rw [hn.out] at k0 hi
    obtain ⟨p, hpb⟩ : ∃ p, Hid (bs.getD i 0 = p) := ⟨_, rfl⟩
    rw [hpb.out] at HO hp kp
    clear h hg hl hb
    go_enter Try.func26, Try.ntmps26
    go_wp2_with (first | (go_at_call 37; refine hh.mono ?_; rintro e1 w1 ⟨rfl, rfl⟩) | (go_at_call 51; refine hp.mono ?_; rintro e2 w2 ⟨rfl, ho⟩))
    refine bodyPost_end (results_none rfl _ _ _) rfl ?_
    exact ⟨rfl, HO.out _ ho⟩
end
end Go.Proofs.Ytknklbojcnhjcaa
