/- Lists in new memory: what copied answers. -/
import Derived.Test.YtjbmljheepomnaaV0
namespace Go.Proofs.Ytjbmljheepomnaa
open Go.RowKit

theorem info_int : (Try.prog.info? 3).map (fun i => (i.zero, i.size, i.bytes)) = some (some (.int .i64 0), 1, 8) := by kernel_rfl
theorem info_i64 : (Try.prog.info? 2).map (fun i => (i.zero, i.size, i.bytes)) = some (some (.int .i64 0), 1, 8) := by kernel_rfl
theorem info_entry : (Try.prog.info? 45).map (fun i => (i.zero, i.size, i.bytes)) = some (some (.agg #[.int .i64 0, .int .i64 0, .int .i64 0]), 3, 24) := by kernel_rfl
theorem info_waiter : (Try.prog.info? 55).map (fun i => (i.zero, i.size, i.bytes)) = some (some (.agg #[.int .i64 0, .int .i64 0]), 2, 16) := by kernel_rfl
theorem info_lint : (Try.prog.info? 23).map (fun i => (i.zero, i.size, i.bytes)) = some (some (.slice none 0 0), 1, 24) := by kernel_rfl
theorem info_lane : (Try.prog.info? 53).map (fun i => (i.zero, i.size, i.bytes)) = some (some (.agg #[.slice none 0 0, .slice none 0 0, .int .i64 0, .int .i64 0]), 4, 64) := by kernel_rfl
/-- A list in new memory. -/
def CpOut (w : World) (T : TypeId) (sz n : Nat) (us : List Value) (e : Ending) (w' : World) : Prop := ∃ a c, e = .returned (.slice a n c) ∧ Row w' T sz a n c us ∧ (∀ k, blk a = some k → k = w.heap.size) ∧ Below w.heap.size w w'
theorem copy_nil {T e : TypeId} {z : Value} {size bytes : Nat} (hu : Try.prog.underlying T = some (.slice e)) (hinfo : (Try.prog.info? e).map (fun i => (i.zero, i.size, i.bytes)) = some (some z, size, bytes)) (hzs : z.cells.size = size) (hs0 : 0 < size) (hb : bytes ≤ 136)
    {w : World} {a : Option Addr} {n c : Nat} {us : List Value} (hR : Rd w a us) (hl : us.length = n * size) (h1 : ∀ u ∈ us, u.oneCell' = true) (hn : n ≤ 1048576) :
    ∃ a' c' w', (∀ ty, (Builtin.append_ #[T, T] ty #[.slice none 0 0, .slice a n c]).run Try.prog w = .ok (.slice a' n c') w') ∧ Row w' e size a' n c' us ∧ (∀ k, blk a' = some k → k = w.heap.size) ∧ Below w.heap.size w w' := by
  obtain ⟨i, k1, k2, k3, k4⟩ := info_parts hinfo
  have hs := hR.src (P := Try.prog) (c := c) hu hl hs0 h1
  obtain ⟨a', c', w', m1, m2, m3, m4, m5⟩ := run_append_row (P := Try.prog) w T e i z size bytes hu k1 k2 k3 k4 hzs Row.nil _ n us hs (by unfold maxLen; omega) (by
    have : (0 + n) * bytes ≤ (0 + n) * 136 := Nat.mul_le_mul_left _ hb
    omega)
  rw [Nat.zero_add] at m2
  simp only [Nat.zero_add] at m1
  rw [List.nil_append] at m2
  refine ⟨a', c', w', m1, m2, fun k hk => ?_, m3.below (Nat.le_refl _) (fun k _ hk => by cases hk)⟩
  rcases m5 with rfl | h
  · cases hk
  · rw [h] at hk; cases hk; rfl
set_option maxRecDepth 100000 in
theorem copied_int {w : World} {a : Option Addr} {n c : Nat} {us : List Value} (hR : Rd w a us) (hl : us.length = n * 1) (h1 : ∀ u ∈ us, u.oneCell' = true) (hn : n ≤ 1048576) : Calls Try.prog 29 #[.slice a n c] w (CpOut w 3 1 n us) := by
  obtain ⟨a', c', w', m1, m2, m3, m4⟩ := copy_nil (c := c) Try.underlying23 info_int rfl (by decide) (by decide) hR hl h1 hn
  have HO : Hid (CpOut w 3 1 n us (.returned (.slice a' n c')) w') := hd ⟨a', c', rfl, m2, m3, m4⟩
  generalize CpOut w 3 1 n us = Q at *
  have hap := hd m1
  clear m1 m2 m3 m4 hR hl h1
  go_enter Try.func29, Try.ntmps29
  go_wp2_with (at_builtin; refine wpList_append_run rfl _ _ _ rfl _ _ _ _ rfl rfl hap.out ?_; clear hap)
  first | exact HO.out | (go_ret; exact HO.out)
set_option maxRecDepth 100000 in
theorem copied_i64 {w : World} {a : Option Addr} {n c : Nat} {us : List Value} (hR : Rd w a us) (hl : us.length = n * 1) (h1 : ∀ u ∈ us, u.oneCell' = true) (hn : n ≤ 1048576) : Calls Try.prog 32 #[.slice a n c] w (CpOut w 2 1 n us) := by
  obtain ⟨a', c', w', m1, m2, m3, m4⟩ := copy_nil (c := c) Try.underlying50 info_i64 rfl (by decide) (by decide) hR hl h1 hn
  have HO : Hid (CpOut w 2 1 n us (.returned (.slice a' n c')) w') := hd ⟨a', c', rfl, m2, m3, m4⟩
  generalize CpOut w 2 1 n us = Q at *
  have hap := hd m1
  clear m1 m2 m3 m4 hR hl h1
  go_enter Try.func32, Try.ntmps32
  go_wp2_with (at_builtin; refine wpList_append_run rfl _ _ _ rfl _ _ _ _ rfl rfl hap.out ?_; clear hap)
  first | exact HO.out | (go_ret; exact HO.out)
set_option maxRecDepth 100000 in
theorem copied_ent {w : World} {a : Option Addr} {n c : Nat} {us : List Value} (hR : Rd w a us) (hl : us.length = n * 3) (h1 : ∀ u ∈ us, u.oneCell' = true) (hn : n ≤ 1048576) : Calls Try.prog 28 #[.slice a n c] w (CpOut w 45 3 n us) := by
  obtain ⟨a', c', w', m1, m2, m3, m4⟩ := copy_nil (c := c) Try.underlying40 info_entry rfl (by decide) (by decide) hR hl h1 hn
  have HO : Hid (CpOut w 45 3 n us (.returned (.slice a' n c')) w') := hd ⟨a', c', rfl, m2, m3, m4⟩
  generalize CpOut w 45 3 n us = Q at *
  have hap := hd m1
  clear m1 m2 m3 m4 hR hl h1
  go_enter Try.func28, Try.ntmps28
  go_wp2_with (at_builtin; refine wpList_append_run rfl _ _ _ rfl _ _ _ _ rfl rfl hap.out ?_; clear hap)
  first | exact HO.out | (go_ret; exact HO.out)
set_option maxRecDepth 100000 in
theorem copied_wai {w : World} {a : Option Addr} {n c : Nat} {us : List Value} (hR : Rd w a us) (hl : us.length = n * 2) (h1 : ∀ u ∈ us, u.oneCell' = true) (hn : n ≤ 1048576) : Calls Try.prog 33 #[.slice a n c] w (CpOut w 55 2 n us) := by
  obtain ⟨a', c', w', m1, m2, m3, m4⟩ := copy_nil (c := c) Try.underlying51 info_waiter rfl (by decide) (by decide) hR hl h1 hn
  have HO : Hid (CpOut w 55 2 n us (.returned (.slice a' n c')) w') := hd ⟨a', c', rfl, m2, m3, m4⟩
  generalize CpOut w 55 2 n us = Q at *
  have hap := hd m1
  clear m1 m2 m3 m4 hR hl h1
  go_enter Try.func33, Try.ntmps33
  go_wp2_with (at_builtin; refine wpList_append_run rfl _ _ _ rfl _ _ _ _ rfl rfl hap.out ?_; clear hap)
  first | exact HO.out | (go_ret; exact HO.out)
set_option maxRecDepth 100000 in
theorem copied_que {w : World} {a : Option Addr} {n c : Nat} {us : List Value} (hR : Rd w a us) (hl : us.length = n * 1) (h1 : ∀ u ∈ us, u.oneCell' = true) (hn : n ≤ 1048576) : Calls Try.prog 30 #[.slice a n c] w (CpOut w 23 1 n us) := by
  obtain ⟨a', c', w', m1, m2, m3, m4⟩ := copy_nil (c := c) Try.underlying41 info_lint rfl (by decide) (by decide) hR hl h1 hn
  have HO : Hid (CpOut w 23 1 n us (.returned (.slice a' n c')) w') := hd ⟨a', c', rfl, m2, m3, m4⟩
  generalize CpOut w 23 1 n us = Q at *
  have hap := hd m1
  clear m1 m2 m3 m4 hR hl h1
  go_enter Try.func30, Try.ntmps30
  go_wp2_with (at_builtin; refine wpList_append_run rfl _ _ _ rfl _ _ _ _ rfl rfl hap.out ?_; clear hap)
  first | exact HO.out | (go_ret; exact HO.out)
set_option maxRecDepth 100000 in
theorem copied_lan {w : World} {a : Option Addr} {n c : Nat} {us : List Value} (hR : Rd w a us) (hl : us.length = n * 4) (h1 : ∀ u ∈ us, u.oneCell' = true) (hn : n ≤ 1048576) : Calls Try.prog 31 #[.slice a n c] w (CpOut w 53 4 n us) := by
  obtain ⟨a', c', w', m1, m2, m3, m4⟩ := copy_nil (c := c) Try.underlying47 info_lane rfl (by decide) (by decide) hR hl h1 hn
  have HO : Hid (CpOut w 53 4 n us (.returned (.slice a' n c')) w') := hd ⟨a', c', rfl, m2, m3, m4⟩
  generalize CpOut w 53 4 n us = Q at *
  have hap := hd m1
  clear m1 m2 m3 m4 hR hl h1
  go_enter Try.func31, Try.ntmps31
  go_wp2_with (at_builtin; refine wpList_append_run rfl _ _ _ rfl _ _ _ _ rfl rfl hap.out ?_; clear hap)
  first | exact HO.out | (go_ret; exact HO.out)
end Go.Proofs.Ytjbmljheepomnaa
