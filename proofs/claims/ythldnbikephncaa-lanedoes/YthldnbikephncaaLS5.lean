/- LaneDoes: its walk. -/
import Derived.Test.YthldnbikephncaaLS4
import Derived.Test.YthldnbikephncaaLWD
namespace Go.Proofs.Ythldnbikephncaa
open Go.RowKit

/-- Steps as cells. -/
def sC (l : List (Int × Int × Int)) : List Value := l.flatMap (fun x => [Value.int .i64 x.1, .int .i64 x.2.1, .int .i64 x.2.2])
theorem sC_at : ∀ (l : List (Int × Int × Int)) (i : Nat), i < l.length → (sC l)[i * 3]? = some (.int .i64 (l.getD i (0, 0, 0)).1) ∧ (sC l)[i * 3 + 1]? = some (.int .i64 (l.getD i (0, 0, 0)).2.1) ∧ (sC l)[i * 3 + 2]? = some (.int .i64 (l.getD i (0, 0, 0)).2.2)
  | [], i, h => absurd h (Nat.not_lt_zero i)
  | t :: ts, 0, _ => ⟨rfl, rfl, rfl⟩
  | t :: ts, i + 1, h => by
    have ih := sC_at ts i (by simpa using h)
    simp only [sC, List.flatMap_cons, List.getD_cons_succ] at *
    rw [List.getElem?_append_right (by simp; omega), List.getElem?_append_right (by simp; omega), List.getElem?_append_right (by simp; omega)]
    simp only [List.length_cons, List.length_nil]
    rw [show (i + 1) * 3 - (0 + 1 + 1 + 1) = i * 3 by omega, show (i + 1) * 3 + 1 - (0 + 1 + 1 + 1) = i * 3 + 1 by omega, show (i + 1) * 3 + 2 - (0 + 1 + 1 + 1) = i * 3 + 2 by omega]
    exact ih
theorem rd_s {w : World} {a : Option Addr} {l : List (Int × Int × Int)} (h : Rd w a (sC l)) (i : Nat) (hi : i < l.length) : ∃ b o, a = some ⟨b, o, none⟩ ∧ w.cell? ⟨b, o + i * 3, none⟩ = some (.int .i64 (l.getD i (0, 0, 0)).1) ∧ w.cell? ⟨b, o + i * 3 + 1, none⟩ = some (.int .i64 (l.getD i (0, 0, 0)).2.1) ∧ w.cell? ⟨b, o + i * 3 + 2, none⟩ = some (.int .i64 (l.getD i (0, 0, 0)).2.2) := by
  obtain ⟨h1, h2, h3⟩ := sC_at l i hi
  obtain ⟨b, o, rfl, k1⟩ := h _ _ h1
  obtain ⟨b', o', e, k2⟩ := h _ _ h2
  cases e
  obtain ⟨b', o', e, k3⟩ := h _ _ h3
  cases e
  exact ⟨b, o, rfl, k1, k2, k3⟩

set_option maxRecDepth 100000 in
set_option maxHeartbeats 4000000 in
theorem does_long {room : Int} {vs : List Int} {ws : List (Int × Int)} {tk dr : Int} {a1 a2 : Option Addr} {c1 c2 : Nat} {v : Value} {w : World} (hl : 1048576 < vs.length ∨ 4096 < ws.length) :
    Calls Try.prog 3 #[.int .i64 room, .agg #[.slice a1 vs.length c1, .slice a2 ws.length c2, .int .i64 tk, .int .i64 dr], v] w fun e w' => e = .returned (.bool true) ∧ Below w.heap.size w w' := by
  have hb0 := below_al w (.cells #[.slice a1 vs.length c1, .slice a2 ws.length c2, .int .i64 tk, .int .i64 dr] 25)
  have HX0 : Hid (Box4 (w.alloc (.cells #[.slice a1 vs.length c1, .slice a2 ws.length c2, .int .i64 tk, .int .i64 dr] 25)) 25 w.heap.size (.slice a1 vs.length c1) (.slice a2 ws.length c2) (.int .i64 tk) (.int .i64 dr)) := hd (box4_new _ _ _ _ _ _)
  have HB0 := hd hb0
  have hfx := fixed_any (w.alloc (.cells #[.slice a1 vs.length c1, .slice a2 ws.length c2, .int .i64 tk, .int .i64 dr] 25))
  clear hb0
  go_enter Try.func3, Try.ntmps3
  go_upto_region 1 with fail
  obtain ⟨w1, hw1⟩ : ∃ W, Hid (w.alloc (.cells #[.slice a1 vs.length c1, .slice a2 ws.length c2, .int .i64 tk, .int .i64 dr] 25) = W) := ⟨_, rfl⟩
  obtain ⟨G, hG⟩ : ∃ G, Hid (w.heap.size = G) := ⟨_, rfl⟩
  rw [hw1.out] at HX0 HB0 hfx ⊢
  rw [hG.out] at HX0 ⊢
  clear hw1
  go_upto_region 2 with (first | (go_at_call 5; refine hfx.mono ?_; rintro e2 w2 ⟨rfl, b2⟩))
  have HB2 := hd (HB0.out.trans (b2.mono HB0.out.size))
  have HX2 := hd (HX0.out.bel b2)
  obtain ⟨p0, p1, p2, p3⟩ := HX2.out.cells
  clear b2 hfx HX0 HB0
  have hlg := long_any (n := vs.length) (m := ws.length) (c1 := c1) (c2 := c2) (a1 := a1) (a2 := a2) (v2 := .int .i64 tk) (v3 := .int .i64 dr) (w := w2) true (by simp; omega)
  clear hl
  go_wp2_with (first | (go_at_call 6; refine hlg.mono ?_; rintro e3 w3 ⟨rfl, b3⟩))
  go_ret
  exact ⟨rfl, HB2.out.trans (b3.mono HB2.out.size)⟩

set_option maxRecDepth 100000 in
set_option maxHeartbeats 4000000 in
theorem does_no {room : Int} {vs : List Int} {ws : List (Int × Int)} {tk dr : Int} {a1 a2 : Option Addr} {c1 c2 : Nat} {v : Value} {w : World} (hA : AL w vs ws a1 a2) (hvl : vs.length ≤ 1048576) (hwl : ws.length ≤ 4096) (er : Int) (her : er ≠ 0)
    (hlay : ∀ (W : World) (b1 b2 : Option Addr) (f1 f2 : Nat), AL W vs ws b1 b2 → Calls Try.prog 8 #[.int .i64 room, .agg #[.slice b1 vs.length f1, .slice b2 ws.length f2, .int .i64 tk, .int .i64 dr]] W (Refused W er))
    (hrlay : ∀ (W : World), AL W vs ws a1 a2 → Calls Try.prog 9 #[.int .i64 room, .agg #[.slice a1 vs.length c1, .slice a2 ws.length c2, .int .i64 tk, .int .i64 dr]] W (Refused W er))
    (hnew : (∀ W : World, (¬ (1 ≤ room ∧ room ≤ 64)) ∧ Calls Try.prog 12 #[.int .i64 room] W (Refused W 1)) ∨ (∀ W : World, (1 ≤ room ∧ room ≤ 64) ∧ Calls Try.prog 12 #[.int .i64 room] W (fun e w' => ∃ b, e = .returned (.tuple #[.pointer (some ⟨b, 0, none⟩), .int .i64 0]) ∧ Below W.heap.size W w'))) :
    Calls Try.prog 3 #[.int .i64 room, .agg #[.slice a1 vs.length c1, .slice a2 ws.length c2, .int .i64 tk, .int .i64 dr], v] w fun e w' => e = .returned (.bool true) ∧ Below w.heap.size w w' := by
  have HA := hd hA
  have hb0 := below_al w (.cells #[.slice a1 vs.length c1, .slice a2 ws.length c2, .int .i64 tk, .int .i64 dr] 25)
  have HX0 : Hid (Box4 (w.alloc (.cells #[.slice a1 vs.length c1, .slice a2 ws.length c2, .int .i64 tk, .int .i64 dr] 25)) 25 w.heap.size (.slice a1 vs.length c1) (.slice a2 ws.length c2) (.int .i64 tk) (.int .i64 dr)) := hd (box4_new _ _ _ _ _ _)
  have HB0 := hd hb0
  have hfx := fixed_any (w.alloc (.cells #[.slice a1 vs.length c1, .slice a2 ws.length c2, .int .i64 tk, .int .i64 dr] 25))
  clear hA hb0
  go_enter Try.func3, Try.ntmps3
  go_upto_region 1 with fail
  obtain ⟨w1, hw1⟩ : ∃ W, Hid (w.alloc (.cells #[.slice a1 vs.length c1, .slice a2 ws.length c2, .int .i64 tk, .int .i64 dr] 25) = W) := ⟨_, rfl⟩
  obtain ⟨G, hG⟩ : ∃ G, Hid (w.heap.size = G) := ⟨_, rfl⟩
  rw [hw1.out] at HX0 HB0 hfx ⊢
  rw [hG.out] at HX0 ⊢
  clear hw1
  go_upto_region 2 with (first | (go_at_call 5; refine hfx.mono ?_; rintro e2 w2 ⟨rfl, b2⟩))
  have HB2 := hd (HB0.out.trans (b2.mono HB0.out.size))
  have HX2 := hd (HX0.out.bel b2)
  obtain ⟨p0, p1, p2, p3⟩ := HX2.out.cells
  clear b2 hfx HX0 HB0
  have hlg := long_any (n := vs.length) (m := ws.length) (c1 := c1) (c2 := c2) (a1 := a1) (a2 := a2) (v2 := .int .i64 tk) (v3 := .int .i64 dr) (w := w2) false (by simp; omega)
  go_upto_region 4 with (first | (go_at_call 6; refine hlg.mono ?_; rintro e3 w3 ⟨rfl, b3⟩))
  have HB3 := hd (HB2.out.trans (b3.mono HB2.out.size))
  have HX3 := hd (HX2.out.bel b3)
  clear b3 hlg HX2 HB2 p0 p1 p2 p3
  obtain ⟨p0, p1, p2, p3⟩ := HX3.out.cells
  have hcp := copy_any (c1 := c1) (c2 := c2) (tk := tk) (dr := dr) (HA.out.below HB3.out) (by omega) (by omega)
  go_upto_region 5 with (first | (go_at_call 7; refine hcp.mono ?_; rintro e4 w4 ⟨b1, f1, b2, f2, rfl, O4⟩))
  have bx := below_al w4 (.cells #[.slice b1 vs.length f1, .slice b2 ws.length f2, .int .i64 tk, .int .i64 dr] 25)
  have HO5 : Hid (OwnAL w3 (w4.alloc (.cells #[.slice b1 vs.length f1, .slice b2 ws.length f2, .int .i64 tk, .int .i64 dr] 25)) vs ws b1 f1 b2 f2) := hd ⟨O4.vals.below bx, O4.wts.below bx, O4.n1, O4.n2, O4.ne, O4.bel.trans (bx.mono O4.bel.size)⟩
  have HY5 : Hid (Box4 (w4.alloc (.cells #[.slice b1 vs.length f1, .slice b2 ws.length f2, .int .i64 tk, .int .i64 dr] 25)) 25 w4.heap.size (.slice b1 vs.length f1) (.slice b2 ws.length f2) (.int .i64 tk) (.int .i64 dr)) := hd (box4_new _ _ _ _ _ _)
  have hHs : Hid (w3.heap.size ≤ w4.heap.size ∧ (∀ k, blk b1 = some k → k < w4.heap.size) ∧ ∀ k, blk b2 = some k → k < w4.heap.size) := hd ⟨O4.bel.size, O4.vals.lt, O4.wts.lt⟩
  obtain ⟨w5, hw5⟩ : ∃ W, Hid (w4.alloc (.cells #[.slice b1 vs.length f1, .slice b2 ws.length f2, .int .i64 tk, .int .i64 dr] 25) = W) := ⟨_, rfl⟩
  obtain ⟨H, hH⟩ : ∃ G, Hid (w4.heap.size = G) := ⟨_, rfl⟩
  rw [hw5.out] at HO5 HY5 ⊢
  rw [hH.out] at HY5 hHs ⊢
  have HB5 := hd (HB3.out.trans (HO5.out.bel.mono HB3.out.size))
  have HX5 := hd (HX3.out.bel HO5.out.bel)
  clear O4 bx hcp HX3 p0 p1 p2 p3 hw5 hH
  obtain ⟨p0, p1, p2, p3⟩ := HX5.out.cells
  obtain ⟨q0, q1, q2, q3⟩ := HY5.out.cells
  have hll := hlay w5 b1 b2 f1 f2 (HO5.out.vals.al HO5.out.wts)
  go_upto_region 6 with (first | (go_at_call 8; refine hll.mono ?_; rintro e6 w6 ⟨rfl, b6⟩))
  have HB6 := hd (HB5.out.trans (b6.mono HB5.out.size))
  have HB6s := hd b6
  have HX6 := hd (HX5.out.bel b6)
  have HY6 := hd (HY5.out.bel b6)
  clear b6 hll HX5 HY5 p0 p1 p2 p3 q0 q1 q2 q3 hlay
  obtain ⟨p0, p1, p2, p3⟩ := HX6.out.cells
  obtain ⟨q0, q1, q2, q3⟩ := HY6.out.cells
  have hrl := hrlay w6 (HA.out.below HB6.out)
  go_upto_region 7 with (first | (go_at_call 9; refine hrl.mono ?_; rintro e7 w7 ⟨rfl, b7⟩))
  have HB7s := hd b7
  clear b7 hrl hrlay
  have HX7 := hd (HX6.out.bel HB7s.out)
  have HY7 := hd (HY6.out.bel HB7s.out)
  have HB7 := hd (HB6.out.trans (HB7s.out.mono HB6.out.size))
  have HV7 := hd ((HO5.out.vals.below HB6s.out).below HB7s.out)
  have HW7 := hd ((HO5.out.wts.below HB6s.out).below HB7s.out)
  clear HX6 HY6 p0 p1 p2 p3 q0 q1 q2 q3
  obtain ⟨p0, p1, p2, p3⟩ := HX7.out.cells
  obtain ⟨q0, q1, q2, q3⟩ := HY7.out.cells
  have hsm := same_any (c1 := f1) (c2 := f2) (e1 := c1) (e2 := c2) (tk := tk) (dr := dr) (HV7.out.al HW7.out) (HA.out.below HB7.out) (by omega) (by omega)
  go_upto_region 8 with (first | (go_at_call 10; refine hsm.mono ?_; rintro e8 w8 ⟨rfl, b8⟩))
  have HB8 := hd (HB7.out.trans (b8.mono HB7.out.size))
  have HB8s := hd b8
  have HV8 := hd (HV7.out.below b8)
  have HW8 := hd (HW7.out.below b8)
  have HY8 := hd (HY7.out.bel b8)
  clear b8 hsm HX7 HY7 HV7 HW7 p0 p1 p2 p3 q0 q1 q2 q3
  obtain ⟨q0, q1, q2, q3⟩ := HY8.out.cells
  have hsp := spoil_any (v2 := .int .i64 tk) (v3 := .int .i64 dr) HV8.out HW8.out HO5.out.ne (by omega) (by omega)
  go_upto_region 9 with (first | (go_at_call 11; refine hsp.mono ?_; rintro e9 w9 ⟨rfl, M9⟩))
  have hown : Hid (∀ k, blk b1 = some k ∨ blk b2 = some k → w.heap.size ≤ k ∧ k < w5.heap.size) := hd (fun k hk => by
    have h3 := HB3.out.size
    rcases hk with hk | hk
    · exact ⟨Nat.le_trans h3 (HO5.out.n1 k hk), HO5.out.vals.lt k hk⟩
    · exact ⟨Nat.le_trans h3 (HO5.out.n2 k hk), HO5.out.wts.lt k hk⟩)
  have HB9 : Hid (Below w.heap.size w w9) := hd (HB8.out.trans (M9.below HB8.out.size (fun k _ hk => (hown.out k hk).1)))
  clear M9 hsp HV8 HW8 HY8 q0 q1 q2 q3
  have her' : (er == 0) = false := by simp [her]
  clear her
  rcases hnew with hnew | hnew
  · obtain ⟨hr, hnw⟩ := hnew w9
    by_cases h1 : 1 ≤ room
    · have h2 : decide (room ≤ 64) = false := by simp; omega
      clear hnew hr
      go_wp2_with (first | (go_at_call 12; refine hnw.mono ?_; rintro e10 w10 ⟨rfl, b10⟩))
      go_ret
      exact ⟨rfl, HB9.out.trans (b10.mono HB9.out.size)⟩
    · have h2 : decide (1 ≤ room) = false := by simp; omega
      clear hnew hr h1
      go_wp2_with (first | (go_at_call 12; refine hnw.mono ?_; rintro e10 w10 ⟨rfl, b10⟩))
      go_ret
      exact ⟨rfl, HB9.out.trans (b10.mono HB9.out.size)⟩
  · obtain ⟨⟨h1, h2⟩, hnw⟩ := hnew w9
    clear hnew
    go_wp2_with (first | (go_at_call 12; refine hnw.mono ?_; rintro e10 w10 ⟨b, rfl, b10⟩))
    go_ret
    exact ⟨rfl, HB9.out.trans (b10.mono HB9.out.size)⟩

end Go.Proofs.Ythldnbikephncaa
