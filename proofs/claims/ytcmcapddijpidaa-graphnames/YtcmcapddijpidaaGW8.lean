/- The calls whose answers the document fixes. -/
import Derived.Test.YtcmcapddijpidaaGW7
namespace Go.Proofs.Ytcmcapddijpidaa
open Go.RowKit Go.Maps

theorem keys_fst {e : Es} {x : Int} : (nxs e x).isSome = true ↔ x ∈ e.map (·.1) := by
  constructor
  · intro h
    cases hn : nxs e x with
    | none => rw [hn] at h; cases h
    | some q => exact List.mem_map.2 ⟨_, nxs_mem hn, rfl⟩
  · intro h
    obtain ⟨⟨a, b⟩, h1, rfl⟩ := List.mem_map.1 h
    cases hn : nxs e (a, b).1 with
    | none => exact absurd h1 (nxs_none hn b)
    | some q => rfl
def e3 : Es := [(3, 1), (1, 2), (2, 3)]
def e2 : Es := [(1, 2), (2, 3)]
theorem f3 : nxs e3 1 = some 2 ∧ nxs e3 2 = some 3 ∧ nxs e3 3 = some 1 := by decide
theorem f2 : nxs e2 1 = some 2 ∧ nxs e2 2 = some 3 ∧ nxs e2 3 = none := by decide
theorem ring3 : RingIs (nxs e3) [1, 2, 3] := by
  obtain ⟨a, b, c⟩ := f3
  have t1 : it (nxs e3) 1 1 = some 2 := by simp only [it, a, Option.bind]
  have t2 : it (nxs e3) 2 1 = some 3 := by simp only [it, a, b, Option.bind]
  have t3 : it (nxs e3) 3 1 = some 1 := by simp only [it, a, b, c, Option.bind]
  refine ⟨[1, 2, 3], some 1, ⟨by decide, fun x => ?_⟩, .stop (.go rfl a (.go (by simp [setN]) b (.go (by simp [setN]) c (.ring (by simp [setN]))))), 3, 1, ⟨by decide, t3, fun j h1 h2 => ?_⟩, ⟨0, by decide, rfl⟩, fun i hi => ?_, ?_⟩
  · rw [keys_fst]; simp [e3]; omega
  · obtain rfl | rfl : j = 1 ∨ j = 2 := by omega
    · rw [t1]; decide
    · rw [t2]; decide
  · obtain rfl | rfl | rfl : i = 0 ∨ i = 1 ∨ i = 2 := by omega
    · decide
    · unfold vv; rw [t1]; decide
    · unfold vv; rw [t2]; decide
  · show [1, 2, 3] = [vv (nxs e3) 1 0, vv (nxs e3) 1 1, vv (nxs e3) 1 2]
    unfold vv
    rw [t1, t2]
    rfl
theorem ring2 : RingIs (nxs e2) [] := by
  obtain ⟨a, b, c⟩ := f2
  refine ⟨[1, 2], none, ⟨by decide, fun x => ?_⟩, .on (.go rfl a (.go (by simp [setN]) b (.sink (by simp [setN]) c))) (.on (.met (g := 0) (by simp [setN]) (by decide)) .nil), rfl⟩
  rw [keys_fst]; simp [e2]
theorem rd_new {w : World} {cs : Array Value} {t : TypeId} : Rd (w.alloc (.cells cs t)) (some ⟨w.heap.size, 0, none⟩) cs.toList := fun j u hj => by
  refine ⟨_, 0, rfl, ?_⟩
  rw [cell_of_row _ _ _ _ _ _ (heap_alloc_new w _), Nat.zero_add]
  simpa using hj
theorem fix_ring (w : World) : Calls Try.prog 7 #[.slice (some ⟨w.heap.size, 0, none⟩) 3 3] (w.alloc (.cells #[.int .i64 3, .int .i64 1, .int .i64 1, .int .i64 2, .int .i64 2, .int .i64 3] 24)) fun x w' => ∃ a c, x = .returned (.slice a 3 c) ∧ Own w w' a c [1, 2, 3] := by
  have hb := below_al w (.cells #[.int .i64 3, .int .i64 1, .int .i64 1, .int .i64 2, .int .i64 2, .int .i64 3] 24)
  refine (ring_any (e := e3) (cp := 3) (rd_new (cs := #[.int .i64 3, .int .i64 1, .int .i64 1, .int .i64 2, .int .i64 2, .int .i64 3])) (fun x hx => ?_) rfl (by decide)).mono ?_
  · simp [e3] at hx
    rcases hx with rfl | rfl | rfl <;> exact ⟨⟨by decide, by decide⟩, ⟨by decide, by decide⟩⟩
  · rintro x w' ⟨l, h1, a, c, rfl, h2⟩
    obtain rfl := h1.det ring3
    exact ⟨a, c, rfl, hb.trans (h2.bel.mono hb.size), h2.row, fun k hk => Nat.le_trans hb.size (h2.new k hk)⟩
theorem fix_no (w : World) : Calls Try.prog 7 #[.slice (some ⟨w.heap.size, 0, none⟩) 2 2] (w.alloc (.cells #[.int .i64 1, .int .i64 2, .int .i64 2, .int .i64 3] 24)) fun x w' => ∃ a c, x = .returned (.slice a 0 c) ∧ Below w.heap.size w w' := by
  have hb := below_al w (.cells #[.int .i64 1, .int .i64 2, .int .i64 2, .int .i64 3] 24)
  refine (ring_any (e := e2) (cp := 2) (rd_new (cs := #[.int .i64 1, .int .i64 2, .int .i64 2, .int .i64 3])) (fun x hx => ?_) rfl (by decide)).mono ?_
  · simp [e2] at hx
    rcases hx with rfl | rfl <;> exact ⟨⟨by decide, by decide⟩, ⟨by decide, by decide⟩⟩
  · rintro x w' ⟨l, h1, a, c, rfl, h2⟩
    obtain rfl := h1.det ring2
    exact ⟨a, c, rfl, hb.trans (h2.bel.mono hb.size)⟩

set_option maxRecDepth 100000 in
set_option maxHeartbeats 4000000 in
theorem fixed_any (w : World) : Calls Try.prog 5 #[] w fun x w' => x = .returned (.bool true) ∧ Below w.heap.size w w' := by
  have h1 := fix_ring w
  have h2 := fun W => fix_no W
  go_enter Try.func5, Try.ntmps5
  go_upto_region 2 with (first | (go_at_call 7; refine h1.mono ?_; rintro x1 w1 ⟨a, c, rfl, o1⟩))
  have HO := hd o1
  obtain ⟨g, rfl, c0⟩ := o1.row.cell 0 (by decide)
  obtain ⟨_, e1, c1⟩ := o1.row.cell 1 (by decide)
  cases e1
  obtain ⟨_, e1, c2⟩ := o1.row.cell 2 (by decide)
  cases e1
  replace c0 : w1.cell? ⟨g, 0, none⟩ = some (.int .i64 1) := c0
  replace c1 : w1.cell? ⟨g, 1, none⟩ = some (.int .i64 2) := c1
  replace c2 : w1.cell? ⟨g, 2, none⟩ = some (.int .i64 3) := c2
  clear o1 h1
  go_wp2_with (first | (go_at_call 7; refine (h2 _).mono ?_; rintro x2 w2 ⟨a2, d2, rfl, b2⟩))
  go_ret
  exact ⟨rfl, HO.out.bel.trans (b2.mono HO.out.bel.size)⟩
theorem graphNames_walk (w : World) : Calls Try.prog 3 #[] w fun x w' => x = .returned (.bool true) ∧ Below w.heap.size w w' := by
  have h1 := fixed_any w
  go_enter Try.func3, Try.ntmps3
  go_wp2_with (first | (go_at_call 5; refine h1.mono ?_; rintro x1 w1 ⟨rfl, b1⟩))
  go_ret
  exact ⟨rfl, b1⟩
end Go.Proofs.Ytcmcapddijpidaa
