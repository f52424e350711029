/- Both locks; a step: Take, Give, Waits. -/
import Derived.Test.YtdihbbpndijdoaaKS2
import Derived.Test.YtdihbbpndijdoaaKR4
import Derived.Test.YtdihbbpndijdoaaKR5
namespace Go.Proofs.Ytdihbbpndijdoaa
open Go.RowKit Go.Maps

/-- The program's locks and the document's, which stand alike, apart from one another, all their blocks new. -/
def Two (w wr : World) (b1 b2 : Nat) (os : List Int) (qs : Qs) : Prop := ∃ F1 F2, Lk wr b1 F1 os qs ∧ Rk wr b2 F2 os qs ∧ (∀ k, F1 k → ¬ F2 k) ∧ (∀ k, F1 k ∨ F2 k → w.heap.size ≤ k) ∧ Below w.heap.size w wr
section
variable {w wr w' : World} {b1 b2 : Nat} {os os' : List Int} {qs qs' : Qs}
theorem Two.below (h : Two w wr b1 b2 os qs) (hb : Below wr.heap.size wr w') : Two w w' b1 b2 os qs := by
  obtain ⟨F1, F2, h1, h2, h3, h4, h5⟩ := h
  exact ⟨F1, F2, h1.below hb, h2.below hb, h3, h4, h5.trans (hb.mono h5.size)⟩
theorem Two.good (h : Two w wr b1 b2 os qs) : GoodL os qs := by
  obtain ⟨F1, F2, h1, h2⟩ := h
  exact h1.good
theorem Two.bel (h : Two w wr b1 b2 os qs) : Below w.heap.size w wr := by
  obtain ⟨F1, F2, h1, h2, h3, h4, h5⟩ := h
  exact h5
/-- A call of the program's and one of the document's behind it. -/
theorem Two.join {w1 w2 : World} {F1 F2 : Nat → Prop} (h2 : Rk wr b2 F2 os qs) (h3 : ∀ k, F1 k → ¬ F2 k) (h4 : ∀ k, F1 k ∨ F2 k → w.heap.size ≤ k) (h5 : Below w.heap.size w wr) (o1 : LkOut wr b1 F1 os' qs' w1) (o2 : RkOut w1 b2 F2 os' qs' w2) : Two w w2 b1 b2 os' qs' ∧ ∃ F1' F2', Lk w2 b1 F1' os' qs' ∧ Rk w2 b2 F2' os' qs' ∧ (∀ k, F1' k → F1 k ∨ wr.heap.size ≤ k) ∧ (∀ k, F2' k → F2 k ∨ w1.heap.size ≤ k) := by
  obtain ⟨m1, F1', l1, n1⟩ := o1
  obtain ⟨m2, F2', l2, n2⟩ := o2
  have hl2 := h2.lt
  have hl1' := l1.lt
  have hd1 : ∀ k, F1' k → ¬ F2 k := fun k hk h => by
    rcases n1 k hk with h6 | h6
    · exact h3 k h6 h
    · have := hl2 k h; omega
  have hk := l1.mod m2 (fun k hk => hd1 k hk)
  have b1' := m1.below h5.size (fun k _ hk => h4 k (.inl hk))
  have hb1 := h5.trans b1'
  have hb2 := hb1.trans (m2.below hb1.size (fun k _ hk => h4 k (.inr hk)))
  refine ⟨⟨F1', F2', hk, l2, fun k hk1 hk2 => ?_, fun k hk => ?_, hb2⟩, F1', F2', hk, l2, n1, n2⟩
  · rcases n2 k hk2 with h6 | h6
    · exact hd1 k hk1 h6
    · have := hl1' k hk1; omega
  · rcases hk with hk | hk
    · rcases n1 k hk with h6 | h6
      · exact h4 k (.inl h6)
      · exact Nat.le_trans h5.size h6
    · rcases n2 k hk with h6 | h6
      · exact h4 k (.inr h6)
      · exact Nat.le_trans hb1.size h6
end
/-- A step's box. -/
theorem box_cells (w : World) (kd lock p : Int) : (w.alloc (.cells #[.int .i64 kd, .int .i64 lock, .int .i64 p] 41)).cell? ⟨w.heap.size, 0, none⟩ = some (.int .i64 kd) ∧ (w.alloc (.cells #[.int .i64 kd, .int .i64 lock, .int .i64 p] 41)).cell? ⟨w.heap.size, 1, none⟩ = some (.int .i64 lock) ∧ (w.alloc (.cells #[.int .i64 kd, .int .i64 lock, .int .i64 p] 41)).cell? ⟨w.heap.size, 2, none⟩ = some (.int .i64 p) := by
  have hh := heap_alloc_new w (.cells #[.int .i64 kd, .int .i64 lock, .int .i64 p] 41)
  refine ⟨?_, ?_, ?_⟩ <;> rw [cell_of_row _ _ _ _ _ _ hh] <;> simp
/-- What a step leaves. -/
def StepOut (w : World) (b1 b2 : Nat) (qs : Qs) (w' : World) : Prop := ∃ os' qs', Two w w' b1 b2 os' qs' ∧ total qs' ≤ total qs + 1

set_option maxRecDepth 100000 in
set_option maxHeartbeats 2000000 in
theorem step_take {w wr : World} {b1 b2 : Nat} {os : List Int} {qs : Qs} (h : Two w wr b1 b2 os qs) (ht : total qs < 6000000000000) (lock : Int) {p : Int} (hp : Fit64 p) :
    Calls Try.prog 23 #[.pointer (some ⟨b1, 0, none⟩), .pointer (some ⟨b2, 0, none⟩), .agg #[.int .i64 1, .int .i64 lock, .int .i64 p]] wr fun e w' => e = .returned (.bool true) ∧ StepOut w b1 b2 qs w' := by
  obtain ⟨w0, hw0⟩ : ∃ W, Hid (wr.alloc (.cells #[.int .i64 1, .int .i64 lock, .int .i64 p] 41) = W) := ⟨_, rfl⟩
  have hb0 : Below wr.heap.size wr w0 := by rw [← hw0.out]; exact below_al wr _
  obtain ⟨x0, x1, x2⟩ := box_cells wr 1 lock p
  rw [hw0.out] at x0 x1 x2
  obtain ⟨G, hG⟩ : ∃ G, Hid (wr.heap.size = G) := ⟨_, rfl⟩
  have hGl : wr.heap.size < w0.heap.size := by rw [← hw0.out]; simp
  have hlt := h
  obtain ⟨F1, F2, h1, h2, h3, h4, h5⟩ := h
  have hl1 := h1.lt
  have hl2 := h2.lt
  have hta := take_any (h1.below hb0) ht lock hp
  have HJ : Hid (∀ w1, LkOut w0 b1 F1 (takeO os qs lock p) (takeQ os qs lock p) w1 → w1.cell? ⟨G, 1, none⟩ = some (.int .i64 lock) ∧ w1.cell? ⟨G, 2, none⟩ = some (.int .i64 p) ∧ Calls Try.prog 32 #[.pointer (some ⟨b2, 0, none⟩), .int .i64 lock, .int .i64 p] w1 fun e w2 => e = .returned (.tuple #[.bool (takeR os qs lock p).1, .int .i64 (takeR os qs lock p).2]) ∧ StepOut w b1 b2 qs w2) := hd (fun w1 ho => by
    have hm := ho.1
    have hg : ¬ F1 wr.heap.size := fun e => by have := hl1 _ e; omega
    rw [← hG.out]
    refine ⟨(hm.cell (p := ⟨wr.heap.size, 1, none⟩) hGl hg).trans x1, (hm.cell (p := ⟨wr.heap.size, 2, none⟩) hGl hg).trans x2, ?_⟩
    have h2' := (h2.below hb0).mod hm (fun k hk hf => h3 k hf hk)
    refine (rtake_any h2' ht lock p).mono ?_
    rintro e w2 ⟨rfl, ho2⟩
    exact ⟨rfl, _, _, (Two.join (h2.below hb0) h3 h4 (h5.trans (hb0.mono h5.size)) ho ho2).1, total_take _ _ _ _⟩)
  obtain ⟨R, hR⟩ : ∃ R, Hid ((takeR os qs lock p).1 = R) := ⟨_, rfl⟩
  obtain ⟨E, hE⟩ : ∃ E, Hid ((takeR os qs lock p).2 = E) := ⟨_, rfl⟩
  rw [hR.out, hE.out] at hta HJ
  have hGG := hG
  rw [hG.out] at x0 x1 x2
  clear h1 h2 h3 h4 h5 hl1 hl2 hlt hb0 hGl
  go_enter Try.func23, Try.ntmps23
  go_upto_region 1 with fail
  rw [hw0.out, hGG.out]
  clear hw0 hGG hG
  go_wp2_with (first
    | (go_at_call 17; refine hta.mono ?_; rintro e1 w1 ⟨rfl, ho1⟩
       obtain ⟨y1, y2, hrt⟩ := HJ.out w1 ho1
       clear ho1)
    | (go_at_call 32; refine hrt.mono ?_; rintro e2 w2 ⟨rfl, ho2⟩))
  all_goals go_ret
  all_goals exact ⟨by simp, ho2⟩

set_option maxRecDepth 100000 in
set_option maxHeartbeats 2000000 in
theorem step_give {w wr : World} {b1 b2 : Nat} {os : List Int} {qs : Qs} (h : Two w wr b1 b2 os qs) (ht : total qs < 6000000000000) (lock p : Int) :
    Calls Try.prog 23 #[.pointer (some ⟨b1, 0, none⟩), .pointer (some ⟨b2, 0, none⟩), .agg #[.int .i64 2, .int .i64 lock, .int .i64 p]] wr fun e w' => e = .returned (.bool true) ∧ StepOut w b1 b2 qs w' := by
  obtain ⟨w0, hw0⟩ : ∃ W, Hid (wr.alloc (.cells #[.int .i64 2, .int .i64 lock, .int .i64 p] 41) = W) := ⟨_, rfl⟩
  have hb0 : Below wr.heap.size wr w0 := by rw [← hw0.out]; exact below_al wr _
  obtain ⟨x0, x1, x2⟩ := box_cells wr 2 lock p
  rw [hw0.out] at x0 x1 x2
  obtain ⟨G, hG⟩ : ∃ G, Hid (wr.heap.size = G) := ⟨_, rfl⟩
  have hGl : wr.heap.size < w0.heap.size := by rw [← hw0.out]; simp
  have hlt := h
  obtain ⟨F1, F2, h1, h2, h3, h4, h5⟩ := h
  have hl1 := h1.lt
  have hl2 := h2.lt
  have hta := give_any (h1.below hb0) (by omega) lock p
  have HJ : Hid (∀ w1, LkOut w0 b1 F1 (giveO os qs lock p) (giveQ os qs lock p) w1 → w1.cell? ⟨G, 1, none⟩ = some (.int .i64 lock) ∧ w1.cell? ⟨G, 2, none⟩ = some (.int .i64 p) ∧ Calls Try.prog 33 #[.pointer (some ⟨b2, 0, none⟩), .int .i64 lock, .int .i64 p] w1 fun e w2 => e = .returned (.tuple #[.int .i64 (giveR os qs lock p).1, .int .i64 (giveR os qs lock p).2]) ∧ StepOut w b1 b2 qs w2) := hd (fun w1 ho => by
    have hm := ho.1
    have hg : ¬ F1 wr.heap.size := fun e => by have := hl1 _ e; omega
    rw [← hG.out]
    refine ⟨(hm.cell (p := ⟨wr.heap.size, 1, none⟩) hGl hg).trans x1, (hm.cell (p := ⟨wr.heap.size, 2, none⟩) hGl hg).trans x2, ?_⟩
    have h2' := (h2.below hb0).mod hm (fun k hk hf => h3 k hf hk)
    refine (rgive_any h2' (by omega) lock p).mono ?_
    rintro e w2 ⟨rfl, ho2⟩
    exact ⟨rfl, _, _, (Two.join (h2.below hb0) h3 h4 (h5.trans (hb0.mono h5.size)) ho ho2).1, Nat.le_trans (total_give _ _ _ _) (Nat.le_succ _)⟩)
  obtain ⟨R, hR⟩ : ∃ R, Hid ((giveR os qs lock p).1 = R) := ⟨_, rfl⟩
  obtain ⟨E, hE⟩ : ∃ E, Hid ((giveR os qs lock p).2 = E) := ⟨_, rfl⟩
  rw [hR.out, hE.out] at hta HJ
  have hGG := hG
  rw [hG.out] at x0 x1 x2
  clear h1 h2 h3 h4 h5 hl1 hl2 hlt hb0 hGl
  go_enter Try.func23, Try.ntmps23
  go_upto_region 1 with fail
  rw [hw0.out, hGG.out]
  clear hw0 hGG hG
  go_wp2_with (first
    | (go_at_call 18; refine hta.mono ?_; rintro e1 w1 ⟨rfl, ho1⟩
       obtain ⟨y1, y2, hrt⟩ := HJ.out w1 ho1
       clear ho1)
    | (go_at_call 33; refine hrt.mono ?_; rintro e2 w2 ⟨rfl, ho2⟩))
  all_goals go_ret
  all_goals exact ⟨by simp, ho2⟩

set_option maxRecDepth 100000 in
set_option maxHeartbeats 2000000 in
theorem step_waits {w wr : World} {b1 b2 : Nat} {os : List Int} {qs : Qs} (h : Two w wr b1 b2 os qs) (ht : total qs < 6000000000000) {kd : Int} (k1 : kd ≠ 1) (k2 : kd ≠ 2) (k3 : kd ≠ 3) (k4 : kd ≠ 4) (lock : Int) {p : Int} (hp : Fit64 p) :
    Calls Try.prog 23 #[.pointer (some ⟨b1, 0, none⟩), .pointer (some ⟨b2, 0, none⟩), .agg #[.int .i64 kd, .int .i64 lock, .int .i64 p]] wr fun e w' => e = .returned (.bool true) ∧ StepOut w b1 b2 qs w' := by
  obtain ⟨w0, hw0⟩ : ∃ W, Hid (wr.alloc (.cells #[.int .i64 kd, .int .i64 lock, .int .i64 p] 41) = W) := ⟨_, rfl⟩
  have hb0 : Below wr.heap.size wr w0 := by rw [← hw0.out]; exact below_al wr _
  obtain ⟨x0, x1, x2⟩ := box_cells wr kd lock p
  rw [hw0.out] at x0 x1 x2
  obtain ⟨G, hG⟩ : ∃ G, Hid (wr.heap.size = G) := ⟨_, rfl⟩
  have HE : Hid (StepOut w b1 b2 qs w0) := hd ⟨os, qs, h.below hb0, Nat.le_succ _⟩
  obtain ⟨F1, F2, h1, h2, h3, h4, h5⟩ := h
  have h1' := h1.below hb0
  have hrw := rwaits_any (h2.below hb0) (by omega) p
  obtain ⟨hG', m, ao, co, aq, cq, es, hL, hq, hF, -⟩ := h1'
  have hwt := waits_any hL hp
  generalize (wtI qs p).getD 0 = R1 at *
  generalize (wtI qs p).isSome = R2 at *
  have e1 : (kd == 1) = false := by simpa using k1
  have e2 : (kd == 2) = false := by simpa using k2
  have e3 : (kd == 3) = false := by simpa using k3
  have e4 : (kd == 4) = false := by simpa using k4
  have hGG := hG
  rw [hG.out] at x0 x1 x2
  clear h1 h2 h3 h4 h5 hb0 hL hq hF hG' k1 k2 k3 k4
  go_enter Try.func23, Try.ntmps23
  go_upto_region 1 with fail
  rw [hw0.out, hGG.out]
  clear hw0 hGG hG
  go_wp2_with (first
    | (go_at_call 28; refine hwt.mono ?_; rintro e1 w1 ⟨rfl, rfl⟩)
    | (go_at_call 36; refine hrw.mono ?_; rintro e2 w2 ⟨rfl, rfl⟩))
  all_goals go_ret
  all_goals exact ⟨by simp, HE.out⟩
end Go.Proofs.Ytdihbbpndijdoaa
