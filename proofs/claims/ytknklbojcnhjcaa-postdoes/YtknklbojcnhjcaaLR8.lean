/- The document's side: Lay. -/
import Derived.Test.YtknklbojcnhjcaaLR7
namespace Go.Proofs.Ytknklbojcnhjcaa
open Go.RowKit

set_option maxRecDepth 100000 in
set_option maxHeartbeats 2000000 in
theorem rlay_arg {room : Int} {w : World} (hr : room < 1 ∨ 64 < room) (v0 v1 v2 v3 : Value) :
    Calls Try.prog 22 #[.int .i64 room, .agg #[v0, v1, v2, v3]] w (Refused w 1) := by
  rcases hr with hr | hr
  · go_enter Try.func22, Try.ntmps22
    go_wp2_with fail
    go_ret2
    exact ⟨rfl, below_al _ _⟩
  · have hr' : decide (room < 1) = false := by simp; omega
    go_enter Try.func22, Try.ntmps22
    go_wp2_with fail
    go_ret2
    exact ⟨rfl, below_al _ _⟩

set_option maxRecDepth 100000 in
set_option maxHeartbeats 2000000 in
theorem rlay_form {room : Int} {vs : List Int} {ws : List (Int × Int)} {tk dr : Int} {a1 a2 : Option Addr} {c1 c2 : Nat} {w : World} (hA : AL w vs ws a1 a2) (hr1 : 1 ≤ room) (hr2 : room ≤ 64) (hw : ws.length ≤ 8000000000000) (hm : ¬ MayL room vs ws tk dr) :
    Calls Try.prog 22 #[.int .i64 room, .agg #[.slice a1 vs.length c1, .slice a2 ws.length c2, .int .i64 tk, .int .i64 dr]] w (Refused w 4) := by
  have hb0 := below_al w (.cells #[.slice a1 vs.length c1, .slice a2 ws.length c2, .int .i64 tk, .int .i64 dr] 29)
  obtain ⟨q0, q1, q2, q3⟩ := box4 w (.slice a1 vs.length c1) (.slice a2 ws.length c2) (.int .i64 tk) (.int .i64 dr) 29
  have hst := rmay_any (c1 := c1) (c2 := c2) (tk := tk) (dr := dr) (room := room) (hA.below hb0) hw false (by simp [hm])
  have g1 : decide (room < 1) = false := by simp; omega
  have g2 : decide (64 < room) = false := by simp; omega
  have HB0 := hd hb0
  clear hA hb0 hm hr1 hr2
  obtain ⟨N, hN⟩ : ∃ N, Hid (vs.length = N) := ⟨_, rfl⟩
  obtain ⟨M, hM⟩ : ∃ M, Hid (ws.length = M) := ⟨_, rfl⟩
  rw [hN.out, hM.out] at HB0 q0 q1 q2 q3 hst ⊢
  clear hw
  go_enter Try.func22, Try.ntmps22
  go_wp2_with (first | (go_at_call 48; refine hst.mono ?_; rintro e2 w2 ⟨rfl, b2⟩))
  go_ret2
  exact ⟨rfl, HB0.out.trans (b2.mono HB0.out.size)⟩

set_option maxRecDepth 100000 in
set_option maxHeartbeats 2000000 in
theorem rlay_ok {room : Nat} {vs : List Int} {ws : List (Int × Int)} {tk dr : Int} {a1 a2 : Option Addr} {c1 c2 : Nat} {w : World} (hA : AL w vs ws a1 a2) (hr1 : 1 ≤ room) (hr2 : room ≤ 64) (hw : ws.length ≤ 8000000000000) (hm : MayL room vs ws tk dr) :
    Calls Try.prog 22 #[.int .i64 (room : Int), .agg #[.slice a1 vs.length c1, .slice a2 ws.length c2, .int .i64 tk, .int .i64 dr]] w (Made w 91 ⟨room, vs, ws, tk, dr⟩) := by
  have hb0 := below_al w (.cells #[.slice a1 vs.length c1, .slice a2 ws.length c2, .int .i64 tk, .int .i64 dr] 29)
  have X0 := box4_new w 29 (.slice a1 vs.length c1) (.slice a2 ws.length c2) (.int .i64 tk) (.int .i64 dr)
  obtain ⟨q0, q1, q2, q3⟩ := X0.cells
  have hst := rmay_any (c1 := c1) (c2 := c2) (tk := tk) (dr := dr) (room := (room : Int)) (hA.below hb0) hw true (by simp [hm])
  have g1 : decide ((room : Int) < 1) = false := by simp; omega
  have g2 : decide (64 < (room : Int)) = false := by simp; omega
  have hvl : vs.length ≤ 64 := by have := hm.1; omega
  have hcp := fun (W : World) (hb : Below w.heap.size w W) => copy_any (c1 := c1) (c2 := c2) (tk := tk) (dr := dr) (hA.below hb) (by omega) hw
  have HB0 := hd hb0
  have HX0 := hd X0
  obtain ⟨Q, hQ⟩ : ∃ Q : Ending → World → Prop, Hid (Made w 91 ⟨room, vs, ws, tk, dr⟩ = Q) := ⟨_, rfl⟩
  rw [hQ.out]
  clear hA hb0 hm hr1 X0
  go_enter Try.func22, Try.ntmps22
  go_upto_region 6 with (first | (go_at_call 48; refine hst.mono ?_; rintro e2 w2 ⟨rfl, b2⟩))
  have HB2 := hd (HB0.out.trans (b2.mono HB0.out.size))
  obtain ⟨p0, p1, p2, p3⟩ := (HX0.out.bel b2).cells
  have hc2 := hcp w2 HB2.out
  clear q0 q1 q2 q3 b2 hst HB0 HX0 hcp
  go_upto_region 7 with (first | (go_at_call 7; refine hc2.mono ?_; rintro e3 w3 ⟨b1, d1, b2, d2, rfl, O3⟩; have HO := hd O3; clear O3))
  have HFI : Hid (Q (.returned (.tuple #[.pointer (some ⟨w3.heap.size, 0, none⟩), .int .i64 0])) (w3.alloc (.cells #[.int .i64 room, .slice b1 vs.length d1, .slice b2 ws.length d2, .int .i64 tk, .int .i64 dr] 91))) := hd (by
    rw [← hQ.out]
    have hB3 := HB2.out.trans (HO.out.bel.mono HB2.out.size)
    have hL := ln_new (T := 91) (s := ⟨room, vs, ws, tk, dr⟩) HO.out.vals HO.out.wts HO.out.ne
    refine ⟨_, _, rfl, hL.ln, fun k hk => ?_, hB3.alloc hB3.size _⟩
    rcases hk with rfl | hk | hk
    · exact hB3.size
    · exact Nat.le_trans HB2.out.size (HO.out.n1 k hk)
    · exact Nat.le_trans HB2.out.size (HO.out.n2 k hk))
  clear HO hc2 p0 p1 p2 p3
  go_wp2_with fail
  exact HFI.out
end Go.Proofs.Ytknklbojcnhjcaa
