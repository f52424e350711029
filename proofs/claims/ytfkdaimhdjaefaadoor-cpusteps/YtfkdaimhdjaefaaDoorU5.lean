/- What an instruction wants of others. -/
import Derived.Test.YtfkdaimhdjaefaaDoorU4
namespace Go.Proofs.YtfkdaimhdjaefaaDoor
open Go.RowKit

/-- What an instruction wants: the kind, to whom, the value. -/
def wantL (c : Core) (op a b d imm : Int) : Int × Int × Int :=
  if op = 0 then (1, 0, 0) else
  if op = 24 then (2, c.r b.toNat, c.r d.toNat) else
  if op = 25 then (3, 0, 0) else
  if op = 26 then (4, 0, 0) else
  if op = 27 then (5, 0, c.r a.toNat) else
  if op = 28 then (6, 0, c.r a.toNat) else
  if op = 29 then (7, imm, 0) else
  if op = 30 then (8, imm, 0) else
  if op = 31 then (9, 0, c.r a.toNat) else (0, 0, 0)
def wantT (t : Int × Int × Int) : Value := wantV t.1 t.2.1 t.2.2

theorem core_in (w : World) (c : Core) (t : TypeId) (j : Nat) (hj : j < 8) (o1 o2 : Obj) : (((w.alloc (.cells (coreA c) t)).alloc o1).alloc o2).cell? ⟨w.heap.size, 1 + j, none⟩ = some (.int .i64 (c.r j)) :=
  (((Box.new w t (coreA c)).bel (below_al' _ o1)).bel (below_al' _ o2)).reg j hj

set_option maxRecDepth 100000 in
set_option maxHeartbeats 1000000 in
theorem wanted_any (c : Core) (op imm : Int) (a b d : Nat) (ha : a < 8) (hb : b < 8) (hd' : d < 8) (w : World) :
    Calls Tryd.prog 19 #[coreV c, insV ⟨op, a, b, d, imm⟩] w fun e w' => e = .returned (wantT (wantL c op a b d imm)) ∧ Below w.heap.size w w' := by
  have hB := three_bel w
  have ka := core_in w c 25 a ha
  have kb := core_in w c 25 b hb
  have kd := core_in w c 25 d hd'
  have la : (a : Int) < 8 := by omega
  have lb : (b : Int) < 8 := by omega
  have ld : (d : Int) < 8 := by omega
  have hop : op = 0 ∨ op = 24 ∨ op = 25 ∨ op = 26 ∨ op = 27 ∨ op = 28 ∨ op = 29 ∨ op = 30 ∨ op = 31 ∨ (op ≠ 0 ∧ op ≠ 24 ∧ op ≠ 25 ∧ op ≠ 26 ∧ op ≠ 27 ∧ op ≠ 28 ∧ op ≠ 29 ∧ op ≠ 30 ∧ op ≠ 31) := by omega
  unfold coreA at ka kb kd
  rcases hop with rfl | rfl | rfl | rfl | rfl | rfl | rfl | rfl | rfl | ⟨n0, n1, n2, n3, n4, n5, n6, n7, n8⟩
  · have e : wantL c 0 a b d imm = (1, 0, 0) := by simp [wantL]
    rw [e]
    unfold coreV coreA insV wantT wantV wantA
    clear e
    go_enter Tryd.func19, Tryd.ntmps19
    go_wp2
    refine bodyPost_ret (by simp [results, Tryd.results19, go_sem]) rfl ⟨rfl, ?_⟩
    exact hB _ _ _
  · have e : wantL c 24 a b d imm = (2, c.r b, c.r d) := by simp [wantL]
    rw [e]
    unfold coreV coreA insV wantT wantV wantA
    clear e
    go_enter Tryd.func19, Tryd.ntmps19
    go_wp2
    go_region
    go_wp2
    refine bodyPost_ret (by simp [results, Tryd.results19, go_sem]) rfl ⟨rfl, ?_⟩
    exact (hB _ _ _).drew
  · have e : wantL c 25 a b d imm = (3, 0, 0) := by simp [wantL]
    rw [e]
    unfold coreV coreA insV wantT wantV wantA
    clear e
    go_enter Tryd.func19, Tryd.ntmps19
    go_wp2
    refine bodyPost_ret (by simp [results, Tryd.results19, go_sem]) rfl ⟨rfl, ?_⟩
    exact hB _ _ _
  · have e : wantL c 26 a b d imm = (4, 0, 0) := by simp [wantL]
    rw [e]
    unfold coreV coreA insV wantT wantV wantA
    clear e
    go_enter Tryd.func19, Tryd.ntmps19
    go_wp2
    refine bodyPost_ret (by simp [results, Tryd.results19, go_sem]) rfl ⟨rfl, ?_⟩
    exact hB _ _ _
  · have e : wantL c 27 a b d imm = (5, 0, c.r a) := by simp [wantL]
    rw [e]
    unfold coreV coreA insV wantT wantV wantA
    clear e
    go_enter Tryd.func19, Tryd.ntmps19
    go_wp2
    refine bodyPost_ret (by simp [results, Tryd.results19, go_sem]) rfl ⟨rfl, ?_⟩
    exact hB _ _ _
  · have e : wantL c 28 a b d imm = (6, 0, c.r a) := by simp [wantL]
    rw [e]
    unfold coreV coreA insV wantT wantV wantA
    clear e
    go_enter Tryd.func19, Tryd.ntmps19
    go_wp2
    refine bodyPost_ret (by simp [results, Tryd.results19, go_sem]) rfl ⟨rfl, ?_⟩
    exact hB _ _ _
  · have e : wantL c 29 a b d imm = (7, imm, 0) := by simp [wantL]
    rw [e]
    unfold coreV coreA insV wantT wantV wantA
    clear e
    go_enter Tryd.func19, Tryd.ntmps19
    go_wp2
    refine bodyPost_ret (by simp [results, Tryd.results19, go_sem]) rfl ⟨rfl, ?_⟩
    exact hB _ _ _
  · have e : wantL c 30 a b d imm = (8, imm, 0) := by simp [wantL]
    rw [e]
    unfold coreV coreA insV wantT wantV wantA
    clear e
    go_enter Tryd.func19, Tryd.ntmps19
    go_wp2
    refine bodyPost_ret (by simp [results, Tryd.results19, go_sem]) rfl ⟨rfl, ?_⟩
    exact hB _ _ _
  · have e : wantL c 31 a b d imm = (9, 0, c.r a) := by simp [wantL]
    rw [e]
    unfold coreV coreA insV wantT wantV wantA
    clear e
    go_enter Tryd.func19, Tryd.ntmps19
    go_wp2
    refine bodyPost_ret (by simp [results, Tryd.results19, go_sem]) rfl ⟨rfl, ?_⟩
    exact hB _ _ _
  · have e : wantL c op a b d imm = (0, 0, 0) := by simp [wantL, n0, n1, n2, n3, n4, n5, n6, n7, n8]
    rw [e]
    have m0 : (op == 0) = false := by simpa using n0
    have m1 : (op == 24) = false := by simpa using n1
    have m2 : (op == 25) = false := by simpa using n2
    have m3 : (op == 26) = false := by simpa using n3
    have m4 : (op == 27) = false := by simpa using n4
    have m5 : (op == 28) = false := by simpa using n5
    have m6 : (op == 29) = false := by simpa using n6
    have m7 : (op == 30) = false := by simpa using n7
    have m8 : (op == 31) = false := by simpa using n8
    unfold coreV coreA insV wantT wantV wantA
    clear e
    go_enter Tryd.func19, Tryd.ntmps19
    go_wp2
    refine bodyPost_ret (by simp [results, Tryd.results19, go_sem]) rfl ⟨rfl, ?_⟩
    exact hB _ _ _
end Go.Proofs.YtfkdaimhdjaefaaDoor
