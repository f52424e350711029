/- The law's example: a config. -/
import Derived.Test.YthhcecllejddeaaGreatDoorGKm
import Derived.Test.YthhcecllejddeaaGreatDoorGQg
import Derived.Test.YthhcecllejddeaaGreatDoorGXLW1
namespace Go.Proofs.YthhcecllejddeaaGreatDoor
open Go.RowKit
def rC : Cfg := ⟨[0, 1], [1, 0, 1], 2, 1, 0, 4, [⟨0, [⟨22, 0, 0, 0, 0⟩]⟩, ⟨1, []⟩]⟩
theorem r_may : (mayC rC).1 = 0 := by kernel_rfl
theorem r_dec : decF (encC rC) = (rC, 0, 0) := by kernel_rfl
theorem r_len : (encC rC).length = 51 := by kernel_rfl
end Go.Proofs.YthhcecllejddeaaGreatDoor

namespace Go.Proofs.YthhcecllejddeaaGreatDoor
open Go.RowKit
theorem al_old {w : World} {o x : Obj} {b : Nat} (h : w.heap[b]? = some x) : (w.alloc o).heap[b]? = some x := ((below_al w o).block b (Array.getElem?_eq_some_iff.1 h).1).trans h
theorem al_new {w : World} {n : Nat} (hn : w.heap.size = n) (cs : Array Value) (T : TypeId) : (w.alloc (.cells cs T)).heap[n]? = some (.cells cs T (0, 0)) ∧ (w.alloc (.cells cs T)).heap.size = n + 1 := by
 subst hn
 exact ⟨heap_alloc_new w _, by simp⟩
theorem rd_heap {w : World} {b : Nat} {cs : Array Value} {T : TypeId} {xs : List Value} (h : w.heap[b]? = some (.cells cs T (0, 0))) (e : cs.toList = xs) : Rd w (some ⟨b, 0, none⟩) xs := fun j u hj => by
 refine ⟨b, 0, rfl, ?_⟩
 rw [cell_of_row _ _ _ _ _ _ h, Nat.zero_add]
 rw [← e] at hj
 simpa using hj
end Go.Proofs.YthhcecllejddeaaGreatDoor

namespace Go.Proofs.YthhcecllejddeaaGreatDoor
open Go.RowKit
def rA (n : Nat) : Array Value := #[.slice (some ⟨n, 0, none⟩) 2 2, .slice (some ⟨n + 1, 0, none⟩) 3 3, .int .i64 2, .int .i64 1, .int .i64 0, .int .i64 4, .slice (some ⟨n + 1 + 1 + 1, 0, none⟩) 2 2]
def rP (n : Nat) : Array Value := #[.int .i64 0, .slice (some ⟨n + 1 + 1, 0, none⟩) 1 1, .int .i64 1, .slice none 0 0]
def rG (n : Nat) : Loc := ⟨some ⟨n, 0, none⟩, 2, some ⟨n + 1, 0, none⟩, 3, some ⟨n + 1 + 1 + 1, 0, none⟩, 2, [⟨⟨0, [⟨22, 0, 0, 0, 0⟩]⟩, some ⟨n + 1 + 1, 0, none⟩, 1⟩, ⟨⟨1, []⟩, none, 0⟩]⟩
def rW (w : World) (n : Nat) : World := ((((w.alloc (.cells #[.int .u64 0, .int .u64 1] 29)).alloc (.cells #[.int .i64 1, .int .i64 0, .int .i64 1] 3)).alloc (.cells (pCells [⟨22, 0, 0, 0, 0⟩]).toArray 54)).alloc (.cells (rP n) 57)).alloc (.cells (rA n) 27)
theorem rW_ok (w : World) (n : Nat) (hn : w.heap.size = n) : (rW w n).heap[n + 1 + 1 + 1 + 1]? = some (.cells (rA n) 27 (0, 0)) ∧ CfR (rW w n) rC (rG n) ∧ Below n w (rW w n) := by
 obtain ⟨a0, s0⟩ := al_new hn #[.int .u64 0, .int .u64 1] 29
 obtain ⟨a1, s1⟩ := al_new s0 #[.int .i64 1, .int .i64 0, .int .i64 1] 3
 obtain ⟨a2, s2⟩ := al_new s1 (pCells [⟨22, 0, 0, 0, 0⟩]).toArray 54
 obtain ⟨a3, s3⟩ := al_new s2 (rP n) 57
 obtain ⟨a4, s4⟩ := al_new s3 (rA n) 27
 refine ⟨a4, ⟨?_, ?_, ?_, ?_, rfl⟩, ?_⟩
 ·exact rd_heap (al_old (al_old (al_old (al_old a0)))) rfl
 ·exact rd_heap (al_old (al_old (al_old a1))) rfl
 ·exact rd_heap (al_old a3) rfl
 ·intro m hm
  rcases List.mem_cons.1 hm with rfl | hm
  ·exact rd_heap (al_old (al_old a2)) (by simp)
  ·rcases List.mem_singleton.1 hm with rfl
   intro j u hj
   simp [pCells] at hj
 ·subst hn
  exact ((((below_al w _).alloc (by omega) _).alloc (by omega) _).alloc (by omega) _).alloc (by omega) _
def RxOut (w : World) (e : Ending) (w' : World) : Prop := ∃ a c, e = .returned (.tuple #[.slice a 51 c, .bool true]) ∧ Rd w' a (bCells (encC rC)) ∧ 51 ≤ c ∧ Below w.heap.size w w'
set_option maxRecDepth 100000 in
set_option maxHeartbeats 4000000 in
theorem rex_any (w : World) : Calls Tryz.prog 9 #[] w (RxOut w) := by
 obtain ⟨n, hn⟩ : ∃ n, Hid (w.heap.size = n) := ⟨_, rfl⟩
 obtain ⟨h1, h2, h3⟩ := rW_ok w n hn.out
 have henc := denc_ok rC (rG n) (rW w n) h2 r_may
 have HE : Hid (∀ e w', EncOut (rW w n) rC e w' → ∃ a c, e = .returned (.tuple #[.slice a 51 c, .int .i64 0]) ∧ Hid (RxOut w (.returned (.tuple #[.slice a 51 c, .bool true])) w')) := hd (by
  rintro e w' ⟨a, c, rfl, hr, -, hb⟩
  rw [r_len] at hr ⊢
  refine ⟨a, c, rfl, hd ⟨a, c, rfl, hr.rd, hr.capLe, ?_⟩⟩
  rw [hn.out]
  exact h3.trans (hb.mono (by have := h3.size; rw [hn.out] at this; exact this)))
 obtain ⟨Q, hQ⟩ : ∃ Q, Hid (RxOut w = Q) := ⟨_, rfl⟩
 obtain ⟨N, hN⟩ : ∃ N : Ending → World → Prop, Hid (EncOut (rW w n) rC = N) := ⟨_, rfl⟩
 rw [hQ.out] at HE ⊢
 rw [hN.out] at henc HE
 have H1 := hd h1
 clear h1 h2 h3 hQ hN
 change Calls Tryz.prog _ #[.agg (rA n)] _ _ at henc
 go_enter Tryz.func9, Tryz.ntmps9
 go_upto_region 2 with fail
 rw [hn.out]
 change Code.wp _ _ _ _ (rW w n)
 generalize rW w n = W at *
 have y0 := cell_of_row _ _ 0 _ _ _ H1.out
 have y1 := cell_of_row _ _ 1 _ _ _ H1.out
 have y2 := cell_of_row _ _ 2 _ _ _ H1.out
 have y3 := cell_of_row _ _ 3 _ _ _ H1.out
 have y4 := cell_of_row _ _ 4 _ _ _ H1.out
 have y5 := cell_of_row _ _ 5 _ _ _ H1.out
 have y6 := cell_of_row _ _ 6 _ _ _ H1.out
 unfold rA at henc
 simp [rA] at y0 y1 y2 y3 y4 y5 y6
 clear H1 hn
 go_wp2_with (go_at_call 17; (with_reducible refine henc.mono ?_); rintro e w1 he; obtain ⟨a, c, rfl, HO⟩ := HE.out e w1 he; clear he henc HE)
 exact HO.out
end Go.Proofs.YthhcecllejddeaaGreatDoor
