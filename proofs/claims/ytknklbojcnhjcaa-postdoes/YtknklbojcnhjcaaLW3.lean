/- The lane's small functions: full, Len, more, counts, copied. -/
import Derived.Test.YtknklbojcnhjcaaProg
import Derived.Test.YtknklbojcnhjcaaLW2
import Derived.Deep.LoopGhost
import Derived.Deep.CutRange
import Derived.Deep.QuietTactic
import Derived.BigQuiet
import Derived.Laws.MakeOwn
namespace Go.Proofs.Ytknklbojcnhjcaa
open Go.RowKit

theorem infoI : (Try.prog.info? 2).map (fun i => (i.zero, i.size, i.bytes)) = some (some (.int .i64 0), 1, 8) := by kernel_rfl
theorem infoW : (Try.prog.info? 52).map (fun i => (i.zero, i.size, i.bytes)) = some (some (.agg #[.int .i64 0, .int .i64 0]), 2, 16) := by kernel_rfl
theorem sizeI : (Try.prog.info? 2).map (·.size) = some 1 := by kernel_rfl
theorem sizeW : (Try.prog.info? 52).map (·.size) = some 2 := by kernel_rfl
theorem info_parts {P : Program} {e : TypeId} {z : Value} {size bytes : Nat} (h : (P.info? e).map (fun i => (i.zero, i.size, i.bytes)) = some (some z, size, bytes)) : ∃ i, P.info? e = some i ∧ i.zero = some z ∧ i.size = size ∧ i.bytes = bytes := by
  cases hi : P.info? e with
  | none => rw [hi] at h; cases h
  | some i =>
    rw [hi] at h
    simp only [Option.map_some, Option.some.injEq, Prod.mk.injEq] at h
    exact ⟨i, rfl, h.1, h.2.1, h.2.2⟩
theorem below_drewN {B : Nat} {a w : World} (h : Below B a w) (n : Nat) : Below B a (w.drewN n) := ⟨h.os, h.tape, h.output, h.size, h.block⟩

/-- 'make' of so many, as an equation. -/
theorem make_eq (t e : TypeId) (z : Value) (size bytes : Nat) (ht : Try.prog.underlying t = some (.slice e)) (hi : (Try.prog.info? e).map (fun i => (i.zero, i.size, i.bytes)) = some (some z, size, bytes)) (n : Nat) (hb : bytes * n ≤ 281474976710656) (h63 : n ≤ maxLen) (W : World) :
    (Instr.makeSlice t (.int .i64 (n : Int)) (.int .i64 (n : Int))).run Try.prog W = .ok (.slice (some ⟨W.heap.size, 0, none⟩) n n) (W.alloc (.cells (madeCells z.cells (n * size)) e)) := by
  obtain ⟨i, h1, h2, h3, h4⟩ := info_parts hi
  subst h3 h4
  have h63' : (n : Int) ≤ 9223372036854775807 := by
    have h := h63
    simp [maxLen] at h
    omega
  have hb' : (i.bytes : Int) * (n : Int) ≤ 281474976710656 := by
    have h : ((i.bytes * n : Nat) : Int) ≤ 281474976710656 := by omega
    rwa [Int.natCast_mul] at h
  have hr := run_make (P := Try.prog) W t e i z ht h1 h2 .i64 .i64 n n (by omega) (Int.le_refl _) hb' h63'
  simp only [Int.toNat_natCast] at hr
  exact hr

theorem len_any {b : Nat} {F : Nat → Prop} {s : LS} {w : World} (h : Ln w 89 b F s) :
    Calls Try.prog 40 #[.pointer (some ⟨b, 0, none⟩)] w fun e w' => e = .returned (.int .i64 s.vs.length) ∧ w' = w := by
  obtain ⟨a1, c1, a2, c2, h, -, -⟩ := h
  obtain ⟨k0, k1, k2, k3, k4⟩ := h.cells
  go_enter Try.func40, Try.ntmps40
  go_wp2
  go_ret
  exact ⟨rfl, rfl⟩

theorem full_any {b : Nat} {F : Nat → Prop} {s : LS} {w : World} (h : Ln w 89 b F s) (B : Bool) (hB : B = decide (s.vs.length = s.room)) :
    Calls Try.prog 61 #[.pointer (some ⟨b, 0, none⟩)] w fun e w' => e = .returned (.bool B) ∧ Below w.heap.size w w' := by
  obtain ⟨a1, c1, a2, c2, h, -, -⟩ := h
  obtain ⟨k0, k1, k2, k3, k4⟩ := h.cells
  have hq : ((s.vs.length : Int) == (s.room : Int)) = B := by
    rw [hB]
    by_cases e : s.vs.length = s.room
    · simp [e]
    · simp only [e, decide_false, beq_eq_false_iff_ne, ne_eq]
      omega
  clear hB h
  go_enter Try.func61, Try.ntmps61
  go_wp2_with fail
  go_quiet (fail)
  go_wp2_with fail
  go_ret
  exact ⟨rfl, below_drewN (below_same _) _⟩

theorem more_any (n : Int) (w : World) (h : 0 ≤ n ∧ n ≤ 65535) : Calls Try.prog 64 #[.int .i64 n] w fun e w' => e = .returned (.int .i64 (moreL n)) ∧ w' = w := by
  obtain ⟨h0, h1⟩ := h
  by_cases hq : n = 65535
  · rw [moreL_up (by omega)]
    subst hq
    go_enter Try.func64, Try.ntmps64
    go_wp2
    go_ret
    exact ⟨rfl, rfl⟩
  · rw [moreL_on (by omega)]
    have hlt : n + 1 ≤ 65535 := by omega
    clear hq
    go_enter Try.func64, Try.ntmps64
    go_wp2
    all_goals go_ret
    all_goals exact ⟨by first | rfl | (congr 2; omega), rfl⟩

theorem counts_any (n : Int) (w : World) (B : Bool) (hB : B = decide (0 ≤ n ∧ n ≤ 65535)) : Calls Try.prog 68 #[.int .i64 n] w fun e w' => e = .returned (.bool B) ∧ w' = w := by
  by_cases h0 : 0 ≤ n
  · by_cases h1 : n ≤ 65535
    · obtain rfl : B = true := by rw [hB]; simp; omega
      clear hB
      go_enter Try.func68, Try.ntmps68
      go_wp2
      go_ret
      exact ⟨rfl, rfl⟩
    · obtain rfl : B = false := by rw [hB]; simp; omega
      have h1' : decide (n ≤ 65535) = false := by simpa using h1
      clear hB
      go_enter Try.func68, Try.ntmps68
      go_wp2
      go_ret
      exact ⟨rfl, rfl⟩
  · obtain rfl : B = false := by rw [hB]; simp; omega
    have h0' : decide (0 ≤ n) = false := by simpa using h0
    clear hB
    go_enter Try.func68, Try.ntmps68
    go_wp2
    go_ret
    exact ⟨rfl, rfl⟩

theorem copied_i {a : Option Addr} {cap : Nat} {vs : List Int} {w : World} (hR : Rd w a (iC vs)) (hn : vs.length ≤ 8000000000000) :
    Calls Try.prog 46 #[.slice a vs.length cap] w fun e w' => ∃ g, e = .returned (.slice (some ⟨g, 0, none⟩) vs.length vs.length) ∧ Row w' 2 1 (some ⟨g, 0, none⟩) vs.length vs.length (iC vs) ∧ w.heap.size ≤ g ∧ Below w.heap.size w w' := by
  obtain ⟨n, hN⟩ : ∃ n, Hid (vs.length = n) := ⟨_, rfl⟩
  have hl := iC_len vs
  rw [hN.out] at hn hl ⊢
  have hmk := make_eq 26 2 (.int .i64 0) 1 8 Try.underlying26 infoI n (by omega) (by unfold maxLen; omega) w
  obtain ⟨zs, hzs⟩ : ∃ zs, Hid (madeCells (Value.int .i64 0).cells (n * 1) = zs) := ⟨_, rfl⟩
  have hz : zs.size = n * 1 := by rw [← hzs.out]; simp [size_madeCells]
  rw [hzs.out] at hmk
  obtain ⟨w2, hcp, hR2, hb2⟩ := copy_new (P := Try.prog) w 26 2 1 (by decide) Try.underlying26 sizeI (c := cap) hR hl (by unfold maxLen; omega) (iC_one vs) zs hz
  have HR := hd hR2
  have HB := hd hb2
  clear hz hR hR2 hb2 hl
  go_enter Try.func46, Try.ntmps46
  go_wp2_with fail
  go_ret
  exact ⟨_, rfl, HR.out, Nat.le_refl _, HB.out⟩

theorem copied_w {a : Option Addr} {cap : Nat} {ws : List (Int × Int)} {w : World} (hR : Rd w a (wC ws)) (hn : ws.length ≤ 8000000000000) :
    Calls Try.prog 47 #[.slice a ws.length cap] w fun e w' => ∃ g, e = .returned (.slice (some ⟨g, 0, none⟩) ws.length ws.length) ∧ Row w' 52 2 (some ⟨g, 0, none⟩) ws.length ws.length (wC ws) ∧ w.heap.size ≤ g ∧ Below w.heap.size w w' := by
  obtain ⟨n, hN⟩ : ∃ n, Hid (ws.length = n) := ⟨_, rfl⟩
  have hl := wC_len ws
  rw [hN.out] at hn hl ⊢
  have hmk := make_eq 27 52 (.agg #[.int .i64 0, .int .i64 0]) 2 16 Try.underlying27 infoW n (by omega) (by unfold maxLen; omega) w
  obtain ⟨zs, hzs⟩ : ∃ zs, Hid (madeCells (Value.agg #[.int .i64 0, .int .i64 0]).cells (n * 2) = zs) := ⟨_, rfl⟩
  have hz : zs.size = n * 2 := by rw [← hzs.out]; simp [size_madeCells]
  rw [hzs.out] at hmk
  obtain ⟨w2, hcp, hR2, hb2⟩ := copy_new (P := Try.prog) w 27 52 2 (by decide) Try.underlying27 sizeW (c := cap) hR hl (by unfold maxLen; omega) (wC_one ws) zs hz
  have HR := hd hR2
  have HB := hd hb2
  clear hz hR hR2 hb2 hl
  go_enter Try.func47, Try.ntmps47
  go_wp2_with fail
  go_ret
  exact ⟨_, rfl, HR.out, Nat.le_refl _, HB.out⟩
end Go.Proofs.Ytknklbojcnhjcaa
