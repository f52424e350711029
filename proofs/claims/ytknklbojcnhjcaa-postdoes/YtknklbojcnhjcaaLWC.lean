/- Lay, New. -/
import Derived.Test.YtknklbojcnhjcaaLWB
namespace Go.Proofs.Ytknklbojcnhjcaa
open Go.RowKit

/-- A lane that was made: all of it is new. -/
def Made (w : World) (T : TypeId) (s : LS) (E : Ending) (w' : World) : Prop :=
  ∃ b F, E = .returned (.tuple #[.pointer (some ⟨b, 0, none⟩), .int .i64 0]) ∧ Ln w' T b F s ∧ (∀ k, F k → w.heap.size ≤ k) ∧ Below w.heap.size w w'
def Refused (w : World) (e : Int) (E : Ending) (w' : World) : Prop := E = .returned (.tuple #[.pointer none, .int .i64 e]) ∧ Below w.heap.size w w'

theorem ln_new {w : World} {T : TypeId} {s : LS} {a1 a2 : Option Addr} {c1 c2 : Nat} (h1 : Row w 2 1 a1 s.vs.length c1 (iC s.vs)) (h2 : Row w 52 2 a2 s.ws.length c2 (wC s.ws)) (hne : ∀ k, blk a2 = some k → blk a1 ≠ some k) :
    LnAt (w.alloc (.cells #[.int .i64 s.room, .slice a1 s.vs.length c1, .slice a2 s.ws.length c2, .int .i64 s.tk, .int .i64 s.dr] T)) T w.heap.size s a1 c1 a2 c2 :=
  ⟨heap_alloc_new _ _, h1.below (below_al _ _), h2.below (below_al _ _), fun k hk => Nat.ne_of_lt (h1.lt k hk), fun k hk => ⟨Nat.ne_of_lt (h2.lt k hk), hne k hk⟩⟩

set_option maxRecDepth 100000 in
set_option maxHeartbeats 2000000 in
theorem lay_arg {room : Int} {v : Value} {w : World} (hr : room < 1 ∨ 64 < room) (v0 v1 v2 v3 : Value) (hv : v = .agg #[v0, v1, v2, v3]) :
    Calls Try.prog 21 #[.int .i64 room, v] w (Refused w 1) := by
  subst hv
  rcases hr with hr | hr
  · go_enter Try.func21, Try.ntmps21
    go_wp2_with fail
    go_ret2
    exact ⟨rfl, below_al _ _⟩
  · have hr' : decide (room < 1) = false := by simp; omega
    go_enter Try.func21, Try.ntmps21
    go_wp2_with fail
    go_ret2
    exact ⟨rfl, below_al _ _⟩

set_option maxRecDepth 100000 in
set_option maxHeartbeats 2000000 in
theorem lay_form {room : Int} {vs : List Int} {ws : List (Int × Int)} {tk dr : Int} {a1 a2 : Option Addr} {c1 c2 : Nat} {w : World} (hA : AL w vs ws a1 a2) (hr1 : 1 ≤ room) (hr2 : room ≤ 64) (hw : ws.length ≤ 8000000000000) (hf : ∀ x ∈ ws, Fit64 x.1) (hm : ¬ MayL room vs ws tk dr) :
    Calls Try.prog 21 #[.int .i64 room, .agg #[.slice a1 vs.length c1, .slice a2 ws.length c2, .int .i64 tk, .int .i64 dr]] w (Refused w 4) := by
  have hb0 := below_al w (.cells #[.slice a1 vs.length c1, .slice a2 ws.length c2, .int .i64 tk, .int .i64 dr] 29)
  obtain ⟨q0, q1, q2, q3⟩ := box4 w (.slice a1 vs.length c1) (.slice a2 ws.length c2) (.int .i64 tk) (.int .i64 dr) 29
  have hst := mstands_any (c1 := c1) (c2 := c2) (tk := tk) (dr := dr) (room := room) (hA.below hb0) hw hf false (by simp [hm])
  have g1 : decide (room < 1) = false := by simp; omega
  have g2 : decide (64 < room) = false := by simp; omega
  have HB0 := hd hb0
  clear hA hb0 hf hm hr1 hr2
  obtain ⟨N, hN⟩ : ∃ N, Hid (vs.length = N) := ⟨_, rfl⟩
  obtain ⟨M, hM⟩ : ∃ M, Hid (ws.length = M) := ⟨_, rfl⟩
  rw [hN.out, hM.out] at HB0 q0 q1 q2 q3 hst ⊢
  clear hw
  go_enter Try.func21, Try.ntmps21
  go_wp2_with (first | (go_at_call 45; refine hst.mono ?_; rintro e2 w2 ⟨rfl, b2⟩))
  go_ret2
  exact ⟨rfl, HB0.out.trans (b2.mono HB0.out.size)⟩

set_option maxRecDepth 100000 in
set_option maxHeartbeats 2000000 in
theorem lay_ok {room : Nat} {vs : List Int} {ws : List (Int × Int)} {tk dr : Int} {a1 a2 : Option Addr} {c1 c2 : Nat} {w : World} (hA : AL w vs ws a1 a2) (hr1 : 1 ≤ room) (hr2 : room ≤ 64) (hw : ws.length ≤ 8000000000000) (hf : ∀ x ∈ ws, Fit64 x.1) (hm : MayL room vs ws tk dr) :
    Calls Try.prog 21 #[.int .i64 (room : Int), .agg #[.slice a1 vs.length c1, .slice a2 ws.length c2, .int .i64 tk, .int .i64 dr]] w (Made w 89 ⟨room, vs, ws, tk, dr⟩) := by
  have hb0 := below_al w (.cells #[.slice a1 vs.length c1, .slice a2 ws.length c2, .int .i64 tk, .int .i64 dr] 29)
  obtain ⟨q0, q1, q2, q3⟩ := box4 w (.slice a1 vs.length c1) (.slice a2 ws.length c2) (.int .i64 tk) (.int .i64 dr) 29
  have hst := mstands_any (c1 := c1) (c2 := c2) (tk := tk) (dr := dr) (room := (room : Int)) (hA.below hb0) hw hf true (by simp [hm])
  have g1 : decide ((room : Int) < 1) = false := by simp; omega
  have g2 : decide (64 < (room : Int)) = false := by simp; omega
  have hvl : vs.length ≤ 64 := by have := hm.1; omega
  have hcI := fun (W : World) (hb : Below w.heap.size w W) => copied_i (cap := c1) (hA.below hb).r1 (by omega)
  have hcW := fun (W : World) (hb : Below w.heap.size w W) => copied_w (cap := c2) (hA.below hb).r2 hw
  have HB0 := hd hb0
  obtain ⟨Q, hQ⟩ : ∃ Q : Ending → World → Prop, Hid (Made w 89 ⟨room, vs, ws, tk, dr⟩ = Q) := ⟨_, rfl⟩
  rw [hQ.out]
  clear hA hb0 hf hm hr1
  obtain ⟨N, hN⟩ : ∃ N, Hid (vs.length = N) := ⟨_, rfl⟩
  obtain ⟨M, hM⟩ : ∃ M, Hid (ws.length = M) := ⟨_, rfl⟩
  rw [hN.out, hM.out] at HB0 q0 q1 q2 q3 hst ⊢
  rw [hN.out] at hcI hvl
  rw [hM.out] at hcW
  clear hw
  obtain ⟨G, hG⟩ : ∃ G, Hid (w.heap.size = G) := ⟨_, rfl⟩
  have HC : Hid (∀ W W' : World, Below W.heap.size W W' → G < W.heap.size → (W.cell? ⟨G, 0, none⟩ = some (.slice a1 N c1) ∧ W.cell? ⟨G, 1, none⟩ = some (.slice a2 M c2) ∧ W.cell? ⟨G, 2, none⟩ = some (.int .i64 tk) ∧ W.cell? ⟨G, 3, none⟩ = some (.int .i64 dr)) → (W'.cell? ⟨G, 0, none⟩ = some (.slice a1 N c1) ∧ W'.cell? ⟨G, 1, none⟩ = some (.slice a2 M c2) ∧ W'.cell? ⟨G, 2, none⟩ = some (.int .i64 tk) ∧ W'.cell? ⟨G, 3, none⟩ = some (.int .i64 dr))) := hd (fun W W' hb hl h => by
    rw [hb.cell (p := ⟨G, 0, none⟩) hl, hb.cell (p := ⟨G, 1, none⟩) hl, hb.cell (p := ⟨G, 2, none⟩) hl, hb.cell (p := ⟨G, 3, none⟩) hl]
    exact h)
  go_enter Try.func21, Try.ntmps21
  go_upto_region 5 with (first | (go_at_call 45; refine hst.mono ?_; rintro e2 w2 ⟨rfl, b2⟩))
  rw [hG.out] at q0 q1 q2 q3 ⊢
  have hl0 : G < (w.alloc (.cells #[.slice a1 N c1, .slice a2 M c2, .int .i64 tk, .int .i64 dr] 29)).heap.size := by simp [hG.out]
  obtain ⟨p0, p1, p2, p3⟩ := HC.out _ w2 b2 hl0 ⟨q0, q1, q2, q3⟩
  have HB2 := hd (HB0.out.trans (b2.mono HB0.out.size))
  have hl2 : Hid (G < w2.heap.size) := hd (Nat.lt_of_lt_of_le hl0 b2.size)
  clear b2 q0 q1 q2 q3 hst hl0 HB0
  have hc1 := hcI w2.drew HB2.out.drew
  go_region_held3 (fun w' => w'.cell? ⟨G, 0, none⟩ = some (.slice a1 N c1) ∧ w'.cell? ⟨G, 1, none⟩ = some (.slice a2 M c2) ∧ w'.cell? ⟨G, 2, none⟩ = some (.int .i64 tk) ∧ w'.cell? ⟨G, 3, none⟩ = some (.int .i64 dr)) (go_keep)
    (first
      | (go_at_call 46; refine hc1.mono ?_; rintro e3 w3 ⟨g1, rfl, R3, hg3, b3⟩
         have HB3 := hd (HB2.out.drew.trans (b3.mono HB2.out.size))
         have hl3 : Hid (G < w3.heap.size) := hd (Nat.lt_of_lt_of_le hl2.out b3.size)
         obtain ⟨u0, u1, u2, u3⟩ := HC.out w2.drew w3 b3 hl2.out ⟨p0, p1, p2, p3⟩
         have hc2 := hcW w3 HB3.out
         have HR3 := hd R3
         have hgg3 := hd hg3
         clear R3 b3 hg3)
      | (go_at_call 47; refine hc2.mono ?_; rintro e4 w4 ⟨g2, rfl, R4, hg4, b4⟩
         have HB4 := hd (HB3.out.trans (b4.mono HB3.out.size))
         have hl4 : Hid (G < w4.heap.size) := hd (Nat.lt_of_lt_of_le hl3.out b4.size)
         obtain ⟨v0, v1, v2, v3⟩ := HC.out w3 w4 b4 hl3.out ⟨u0, u1, u2, u3⟩
         have hnl4 : G ≠ w4.heap.size := Nat.ne_of_lt hl4.out
         have HR3' := hd (HR3.out.below b4)
         have HR4 := hd R4
         have hgg4 := hd hg4
         clear R4 b4 hg4))
  have HFI : Hid (Q (.returned (.tuple #[.pointer (some ⟨w4.heap.size, 0, none⟩), .int .i64 0])) (w4.alloc (.cells #[.int .i64 room, .slice (some ⟨g1, 0, none⟩) N N, .slice (some ⟨g2, 0, none⟩) M M, .int .i64 tk, .int .i64 dr] 89))) := hd (by
    rw [← hQ.out, ← hN.out, ← hM.out]
    have h1 : w.heap.size ≤ g1 := Nat.le_trans HB2.out.size hgg3.out
    have h2 : g1 < w3.heap.size := HR3.out.lt g1 rfl
    have h3 : w3.heap.size ≤ g2 := hgg4.out
    have h4 := HB4.out.size
    have hL := ln_new (T := 89) (s := ⟨room, vs, ws, tk, dr⟩) (c1 := vs.length) (c2 := ws.length) (by rw [hN.out]; exact HR3'.out) (by rw [hM.out]; exact HR4.out) (fun k hk e => by cases hk; cases e; omega)
    refine ⟨_, _, rfl, hL.ln, fun k hk => ?_, HB4.out.alloc HB4.out.size _⟩
    rcases hk with rfl | hk | hk
    · exact h4
    · cases hk; exact h1
    · cases hk; simp only; omega)
  clear HR3 HR3' HR4 hgg3 hgg4 hcI hcW hc1 hc2 v0 v1 v2 v3 u0 u1 u2 u3 p0 p1 p2 p3
  go_wp2_with fail
  exact HFI.out

def LS.new (room : Nat) : LS := ⟨room, [], [], 0, 0⟩
theorem good_new {room : Nat} (h1 : 1 ≤ room) (h2 : room ≤ 64) : Good (LS.new room) := ⟨h1, h2, ⟨by simp [LS.new], .inl rfl, by simp [LS.new], by simp [LS.new], by simp [LS.new]⟩, by simp [LS.new]⟩
theorem al_nil (w : World) : AL w [] [] none none := ⟨fun j u h => by simp [iC] at h, fun j u h => by simp [wC] at h⟩

end Go.Proofs.Ytknklbojcnhjcaa
