/- Slots in memory; the small functions. -/
import Derived.Test.YtcececjnndhalaaRows
import Derived.Test.YtcececjnndhalaaM1
import Derived.WalkKit
import Derived.WalkSpells
import Derived.WalkLawsBesides
import Derived.Deep.Quiet
import Derived.Deep.QuietTactic
import Derived.BigQuiet
namespace Go.Proofs.Ytcececjnndhalaa
open Go.RowKit

theorem ret_bool {a b : Bool} (h : a = b) : Ending.returned (.bool a) = .returned (.bool b) := by rw [h]
theorem ret_int {k : IntKind} {a b : Int} (h : a = b) : Ending.returned (.int k a) = .returned (.int k b) := by rw [h]

theorem below_drewN {B : Nat} {a w : World} (h : Below B a w) (n : Nat) : Below B a (w.drewN n) := ⟨h.os, h.tape, h.output, h.size, h.block⟩

/-- The entries l lie at the block lb, from its first cell on. -/
def Ents (w : World) (lb : Nat) (l : List Int) : Prop := ∀ i, i < l.length → w.cell? ⟨lb, i, none⟩ = some (.int .i64 (l.getD i 0))

/-- Slots of the table l lie at the block sb. -/
structure Sl (w : World) (sb lb cap : Nat) (l : List Int) : Prop where
  c0 : w.cell? ⟨sb, 0, none⟩ = some (.slice (some ⟨lb, 0, none⟩) l.length cap)
  ent : Ents w lb l
  len : l.length ≤ 64
  cap : l.length ≤ cap
  pos : 0 < l.length
  wf : ∀ i, i < l.length → 0 ≤ l.getD i 0 ∧ l.getD i 0 < 8

theorem Ents.kept {w w' : World} {lb : Nat} {l : List Int} (h : Ents w lb l) (hb : Below w.heap.size w w') : Ents w' lb l :=
  fun i hi => (hb.cell (World.block_lt_of_cell? w _ (h i hi))).trans (h i hi)

theorem Sl.kept {w w' : World} {sb lb cap : Nat} {l : List Int} (h : Sl w sb lb cap l) (hb : Below w.heap.size w w') : Sl w' sb lb cap l where
  c0 := (hb.cell (World.block_lt_of_cell? w _ h.c0)).trans h.c0
  ent := h.ent.kept hb
  len := h.len
  cap := h.cap
  pos := h.pos
  wf := h.wf

theorem Sl.drewN {w : World} {sb lb cap : Nat} {l : List Int} (h : Sl w sb lb cap l) (n : Nat) : Sl (w.drewN n) sb lb cap l := h.kept (below_drewN (Below.refl _ _) n)

set_option maxRecDepth 100000 in
set_option maxHeartbeats 1000000 in
theorem entries_any (lb n cap : Nat) (l : List Int) (p : Int) (w : World) (hn : n ≤ l.length) (h64 : l.length ≤ 64) (hc : Ents w lb l) :
    Calls Try.prog 20 #[.slice (some ⟨lb, 0, none⟩) n cap, .int .i64 p] w fun e w' => e = .returned (.int .i64 (cnt (l.take n) p : Nat)) ∧ w' = w := by
  go_enter Try.func20, Try.ntmps20
  go_wp2
  go_loop [5, 10] (fun c i => ∃ k m : Nat, k ≤ n ∧ m ≤ k ∧ i = .int .i64 k ∧ c = .int .i64 m ∧ Hid (m = cnt (l.take k) p)) (fun _ i => n - (intOf i).toNat)
  case atStart => exact ⟨0, 0, Nat.zero_le _, Nat.zero_le _, rfl, rfl, rfl⟩
  case round =>
    obtain ⟨k, m, hk, hmk, rfl, rfl, hm⟩ := hrel
    by_cases hlt : k < n
    · have hx := hc k (by omega)
      have hs : Hid (cnt (l.take (k + 1)) p = cnt (l.take k) p + (if l.getD k 0 = p then 1 else 0)) := cnt_take_succ l p k (by omega)
      have hlt' : (k : Int) < (n : Int) := by omega
      by_cases he : l.getD k 0 = p
      · have H : Hid (m + 1 = cnt (l.take (k + 1)) p) := by
          show _ = _
          rw [hs.out, if_pos he, hm.out]
        clear hs
        generalize l.getD k 0 = x at *
        have t1 : (x == p) = true := by rw [beq_iff_eq]; exact he
        clear he
        go_wp2
        go_round
        case rel => exact ⟨k + 1, m + 1, by omega, by omega, by go_num, by go_num, H⟩
        case measure => simp [intOf]; omega
      · have H : Hid (m = cnt (l.take (k + 1)) p) := by
          show _ = _
          rw [hs.out, if_neg he, hm.out]; rfl
        clear hs
        generalize l.getD k 0 = x at *
        have t1 : (x == p) = false := by rw [beq_eq_false_iff_ne]; exact he
        clear he
        go_wp2
        go_round
        case rel => exact ⟨k + 1, m, by omega, by omega, by go_num, rfl, H⟩
        case measure => simp [intOf]; omega
    · have ek : k = n := by omega
      subst ek
      go_wp2
      go_ret
      exact ⟨by rw [hm.out]; rfl, rfl⟩

set_option maxHeartbeats 400000 in
theorem round_any (sb lb cap : Nat) (l : List Int) (w : World) (h : Sl w sb lb cap l) :
    Calls Try.prog 22 #[.pointer (some ⟨sb, 0, none⟩)] w fun e w' => e = .returned (.int .i64 (l.length : Nat)) ∧ w' = w := by
  have h0 := h.c0
  go_enter Try.func22, Try.ntmps22
  go_wp2
  go_ret
  exact ⟨rfl, rfl⟩

set_option maxHeartbeats 400000 in
theorem len_any (sb lb cap : Nat) (l : List Int) (w : World) (h : Sl w sb lb cap l) :
    Calls Try.prog 17 #[.pointer (some ⟨sb, 0, none⟩)] w fun e w' => e = .returned (.int .i64 (l.length : Nat)) ∧ w' = w := by
  have h0 := h.c0
  go_enter Try.func17, Try.ntmps17
  go_wp2
  go_ret
  exact ⟨rfl, rfl⟩

set_option maxRecDepth 100000 in
set_option maxHeartbeats 1000000 in
theorem owner_any (sb lb cap : Nat) (l : List Int) (w : World) (h : Sl w sb lb cap l) (t : Nat) (ht : t < 9223372036854775808) :
    Calls Try.prog 11 #[.pointer (some ⟨sb, 0, none⟩), .int .i64 t] w fun e w' => e = .returned (.int .i64 (ownN l t)) ∧ ∃ n, w' = w.drewN n := by
  have h0 := h.c0
  have hm := Nat.mod_lt t h.pos
  have hx := h.ent (t % l.length) hm
  have hp := h.pos
  have hr := fun n => round_any sb lb cap l (w.drewN n) (h.drewN n)
  have hz : ((l.length : Int) == 0) = false := by rw [beq_eq_false_iff_ne]; omega
  have ht0 : decide ((t : Int) < 0) = false := by simp
  unfold ownN
  generalize l.getD (t % l.length) 0 = x at *
  go_enter Try.func11, Try.ntmps11
  go_wp2_with fail
  go_quiet (with_reducible exact Calls.quiet_of_same (hr _))
  go_wp2
  go_ret
  exact ⟨rfl, _, rfl⟩

set_option maxHeartbeats 400000 in
theorem owner_any_neg (sb : Nat) (w : World) (t : Int) (ht : t < 0) :
    Calls Try.prog 11 #[.pointer (some ⟨sb, 0, none⟩), .int .i64 t] w fun e w' => e = .returned (.int .i64 (-1)) ∧ w' = w := by
  go_enter Try.func11, Try.ntmps11
  go_wp2
  go_ret
  exact ⟨rfl, rfl⟩

set_option maxRecDepth 100000 in
set_option maxHeartbeats 1000000 in
theorem rowner_any (sb lb cap : Nat) (l : List Int) (w : World) (h : Sl w sb lb cap l) (t : Nat) (ht : t < 9223372036854775808) :
    Calls Try.prog 12 #[.pointer (some ⟨sb, 0, none⟩), .int .i64 t] w fun e w' => e = .returned (.int .i64 (ownN l t)) ∧ ∃ n, w' = w.drewN n := by
  have h0 := h.c0
  have hm := Nat.mod_lt t h.pos
  have hx := h.ent (t % l.length) hm
  have hp := h.pos
  have hz : ((l.length : Int) == 0) = false := by rw [beq_eq_false_iff_ne]; omega
  have ht0 : decide ((t : Int) < 0) = false := by simp
  unfold ownN
  generalize l.getD (t % l.length) 0 = x at *
  go_enter Try.func12, Try.ntmps12
  go_wp2_with fail
  go_quiet (fail)
  go_wp2
  go_ret
  exact ⟨rfl, _, rfl⟩

set_option maxHeartbeats 400000 in
theorem rowner_any_neg (sb : Nat) (w : World) (t : Int) (ht : t < 0) :
    Calls Try.prog 12 #[.pointer (some ⟨sb, 0, none⟩), .int .i64 t] w fun e w' => e = .returned (.int .i64 (-1)) ∧ w' = w := by
  go_enter Try.func12, Try.ntmps12
  go_wp2
  go_ret
  exact ⟨rfl, rfl⟩

end Go.Proofs.Ytcececjnndhalaa
