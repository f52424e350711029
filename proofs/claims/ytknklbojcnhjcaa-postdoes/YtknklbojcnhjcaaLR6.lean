/- The document's side: Same. -/
import Derived.Test.YtknklbojcnhjcaaLR5
namespace Go.Proofs.Ytknklbojcnhjcaa
open Go.RowKit

theorem drewN_add (w : World) (a b : Nat) : (w.drewN a).drewN b = w.drewN (a + b) := by simp [World.drewN, Nat.add_assoc]
theorem Rd.drewN {w : World} {a : Option Addr} {xs : List Value} (h : Rd w a xs) (n : Nat) : Rd (w.drewN n) a xs := h.below (below_drewN (below_same w) n)
theorem Box4.drewN {w : World} {t : TypeId} {G : Nat} {v0 v1 v2 v3 : Value} (h : Box4 w t G v0 v1 v2 v3) (n : Nat) : Box4 (w.drewN n) t G v0 v1 v2 v3 := h.bel (below_drewN (below_same w) n)

set_option maxRecDepth 100000 in
set_option maxHeartbeats 2000000 in
theorem same_any {vs : List Int} {ws : List (Int × Int)} {tk dr : Int} {a1 a2 d1 d2 : Option Addr} {c1 c2 e1 e2 : Nat} {w : World} (hA : AL w vs ws a1 a2) (hD : AL w vs ws d1 d2) (hv : vs.length ≤ 8000000000000) (hw : ws.length ≤ 8000000000000) :
    Calls Try.prog 23 #[.agg #[.slice a1 vs.length c1, .slice a2 ws.length c2, .int .i64 tk, .int .i64 dr], .agg #[.slice d1 vs.length e1, .slice d2 ws.length e2, .int .i64 tk, .int .i64 dr]] w fun e w' => e = .returned (.bool true) ∧ Below w.heap.size w w' := by
  have b0 := below_al w (.cells #[.slice a1 vs.length c1, .slice a2 ws.length c2, .int .i64 tk, .int .i64 dr] 29)
  have b1 := below_al (w.alloc (.cells #[.slice a1 vs.length c1, .slice a2 ws.length c2, .int .i64 tk, .int .i64 dr] 29)) (.cells #[.slice d1 vs.length e1, .slice d2 ws.length e2, .int .i64 tk, .int .i64 dr] 29)
  have X0 := (box4_new w 29 (.slice a1 vs.length c1) (.slice a2 ws.length c2) (.int .i64 tk) (.int .i64 dr)).bel b1
  have X1 := box4_new (w.alloc (.cells #[.slice a1 vs.length c1, .slice a2 ws.length c2, .int .i64 tk, .int .i64 dr] 29)) 29 (.slice d1 vs.length e1) (.slice d2 ws.length e2) (.int .i64 tk) (.int .i64 dr)
  have hb2 : Below w.heap.size w ((w.alloc (.cells #[.slice a1 vs.length c1, .slice a2 ws.length c2, .int .i64 tk, .int .i64 dr] 29)).alloc (.cells #[.slice d1 vs.length e1, .slice d2 ws.length e2, .int .i64 tk, .int .i64 dr] 29)) := b0.trans (b1.mono b0.size)
  simp only [size_al] at X1
  have HA := hd (hA.below hb2)
  have HD := hd (hD.below hb2)
  have HX0 := hd X0
  have HX1 := hd X1
  have HB := hd hb2
  clear b0 b1 X0 X1 hb2 hA hD
  go_enter Try.func23, Try.ntmps23
  go_upto_region 1 with fail
  obtain ⟨W, hW⟩ : ∃ W, Hid (((w.alloc (.cells #[.slice a1 vs.length c1, .slice a2 ws.length c2, .int .i64 tk, .int .i64 dr] 29)).alloc (.cells #[.slice d1 vs.length e1, .slice d2 ws.length e2, .int .i64 tk, .int .i64 dr] 29)) = W) := ⟨_, rfl⟩
  rw [hW.out] at HA HD HX0 HX1 HB ⊢
  obtain ⟨G0, hG0⟩ : ∃ G, Hid (w.heap.size = G) := ⟨_, rfl⟩
  obtain ⟨G1, hG1⟩ : ∃ G, Hid (w.heap.size + 1 = G) := ⟨_, rfl⟩
  rw [hG1.out, hG0.out]
  rw [hG1.out] at HX1
  rw [hG0.out] at HX0
  obtain ⟨p0, p1, p2, p3⟩ := HX0.out.cells
  obtain ⟨q0, q1, q2, q3⟩ := HX1.out.cells
  go_upto_region 3 with fail
  clear p0 p1 p2 p3 q0 q1 q2 q3
  go_wp2_with fail
  go_loopg [5] vs.length (fun k v5 wr => ∃ i : Nat, v5 = .int .i64 i ∧ i + k = vs.length ∧ ∃ n, wr = W.drewN n)
  case atStart => exact ⟨0, rfl, by omega, 0, rfl⟩
  case round =>
    obtain ⟨i, rfl, hik, n, rfl⟩ := hrel
    obtain ⟨W2, hW2⟩ : ∃ W2, Hid (W.drewN n = W2) := ⟨_, rfl⟩
    have X0 := HX0.out.drewN n
    have X1 := HX1.out.drewN n
    have R1 := HA.out.r1.drewN n
    have R2 := HD.out.r1.drewN n
    rw [hW2.out] at X0 X1 R1 R2 ⊢
    obtain ⟨p0, -, -, -⟩ := X0.cells
    obtain ⟨q0, -, -, -⟩ := X1.cells
    by_cases hlt : i < vs.length
    · have hlt' : (i : Int) < (vs.length : Int) := by omega
      obtain ⟨ba, oa, rfl, x0⟩ := rd_i R1 i hlt
      obtain ⟨bb, ob, rfl, y0⟩ := rd_i R2 i hlt
      generalize vs.getD i 0 = z at x0 y0
      clear X0 X1 R1 R2
      go_wp2_with fail
      go_quiet (fail)
      go_wp2_with fail
      go_roundg (gk - 1)
      case measure => omega
      case rel => exact ⟨i + 1, by go_num, by omega, n + nq, by rw [← hW2.out, drewN_add]⟩
    · have hltd : decide ((i : Int) < (vs.length : Int)) = false := by simp; omega
      clear R1 R2
      go_upto_region 8 with fail
      clear p0 q0 X0 X1
      go_wp2_with fail
      go_loopg [6] ws.length (fun k v6 wr => ∃ i : Nat, v6 = .int .i64 i ∧ i + k = ws.length ∧ ∃ n, wr = W.drewN n)
      case atStart => exact ⟨0, rfl, by omega, n, hW2.out.symm⟩
      case round =>
        clear hW2
        obtain ⟨j, rfl, hjk, n2, rfl⟩ := hrel
        obtain ⟨W3, hW3⟩ : ∃ W3, Hid (W.drewN n2 = W3) := ⟨_, rfl⟩
        have X0 := HX0.out.drewN n2
        have X1 := HX1.out.drewN n2
        have R1 := HA.out.r2.drewN n2
        have R2 := HD.out.r2.drewN n2
        have hbW := hd (HB.out.trans ((below_drewN (below_same W) n2).mono HB.out.size))
        rw [hW3.out] at X0 X1 R1 R2 hbW ⊢
        obtain ⟨-, p1, -, -⟩ := X0.cells
        obtain ⟨-, q1, -, -⟩ := X1.cells
        by_cases hlt2 : j < ws.length
        · have hlt2' : (j : Int) < (ws.length : Int) := by omega
          obtain ⟨ba, oa, rfl, x0, x1⟩ := rd_w R1 j hlt2
          obtain ⟨bb, ob, rfl, y0, y1⟩ := rd_w R2 j hlt2
          generalize ws.getD j (0, 0) = z at x0 y0 x1 y1
          clear X0 X1 R1 R2
          go_wp2_with fail
          go_quiet (fail)
          go_wp2_with fail
          go_roundg (gk - 1)
          case measure => omega
          case rel => exact ⟨j + 1, by go_num, by omega, n2 + nq, by rw [← hW3.out, drewN_add]⟩
        · have hltd2 : decide ((j : Int) < (ws.length : Int)) = false := by simp; omega
          go_wp2_with fail
          go_ret
          exact ⟨rfl, hbW.out⟩
end Go.Proofs.Ytknklbojcnhjcaa
