/- A lane in memory. -/
import Derived.Test.YthhcecllejddeaaGreatDoorGLm
import Derived.Test.YthhcecllejddeaaGreatDoorGXLW1
import Derived.Test.YthhcecllejddeaaGreatDoorProg
import Derived.Deep.LoopGhost
import Derived.Deep.CutRange
import Derived.Deep.QuietTactic
import Derived.BigQuiet
import Derived.Laws.MakeOwn
import Derived.Deep.RegionWith
namespace Go.Proofs.YthhcecllejddeaaGreatDoor.Lane
open Go.RowKit
def iC (l : List Int) : List Value := l.map (.int .i64 ·)
def wP (x : Int × Int) : List Value := [.int .i64 x.1, .int .i64 x.2]
def wC (l : List (Int × Int)) : List Value := l.flatMap wP
theorem iC_len (l : List Int) : (iC l).length = l.length * 1 := by simp [iC]
theorem wC_len (l : List (Int × Int)) : (wC l).length = l.length * 2 := by
 induction l with
 | nil => rfl
 | cons x r ih => simp only [wC, List.flatMap_cons, List.length_append, List.length_cons] at *; rw [ih, show (wP x).length = 2 from rfl]; omega
theorem iC_app (l m : List Int) : iC (l ++ m) = iC l ++ iC m := by simp [iC]
theorem wC_app (l m : List (Int × Int)) : wC (l ++ m) = wC l ++ wC m := by simp [wC]
theorem iC_at (l : List Int) (i : Nat) (h : i < l.length) : (iC l)[i]? = some (.int .i64 (l.getD i 0)) := by
 simp [iC, List.getD_eq_getElem?_getD, List.getElem?_eq_getElem h]
theorem wC_at : ∀ (l : List (Int × Int)) (i : Nat), i < l.length → (wC l)[i * 2]? = some (.int .i64 (l.getD i (0, 0)).1) ∧ (wC l)[i * 2 + 1]? = some (.int .i64 (l.getD i (0, 0)).2)
 | [], i, h => absurd h (Nat.not_lt_zero i)
 | t :: ts, 0, _ => ⟨rfl, rfl⟩
 | t :: ts, i + 1, h => by
  have ih := wC_at ts i (by simpa using h)
  simp only [wC, List.flatMap_cons, List.getD_cons_succ] at *
  rw [List.getElem?_append_right (by rw [show (wP t).length = 2 from rfl]; omega), List.getElem?_append_right (by rw [show (wP t).length = 2 from rfl]; omega), show (wP t).length = 2 from rfl, show (i + 1) * 2 - 2 = i * 2 by omega, show (i + 1) * 2 + 1 - 2 = i * 2 + 1 by omega]
  exact ih
theorem iC_one (l : List Int) : ∀ u ∈ iC l, u.oneCell' = true := by
 intro u hu
 obtain ⟨x, _, rfl⟩ := List.mem_map.mp hu
 rfl
theorem wC_one (l : List (Int × Int)) : ∀ u ∈ wC l, u.oneCell' = true := by
 intro u hu
 simp only [wC, List.mem_flatMap, wP] at hu
 obtain ⟨x, _, hx⟩ := hu
 simp only [List.mem_cons, List.not_mem_nil, or_false] at hx
 rcases hx with rfl | rfl <;> rfl
theorem iC_drop (l : List Int) (k : Nat) : (iC l).drop (k * 1) = iC (l.drop k) := by simp [iC]
theorem iC_take (l : List Int) (k : Nat) : (iC l).take (k * 1) = iC (l.take k) := by simp [iC, List.map_take]
theorem wC_drop (l : List (Int × Int)) (k : Nat) : (wC l).drop (k * 2) = wC (l.drop k) := by
 induction k generalizing l with
 | zero => simp
 | succ k ih =>
  cases l with
  | nil => simp [wC]
  | cons x r =>
   rw [List.drop_succ_cons, ← ih]
   simp only [wC, List.flatMap_cons]
   rw [show (k + 1) * 2 = (wP x).length + k * 2 by rw [show (wP x).length = 2 from rfl]; omega, ← List.drop_drop, List.drop_left]
theorem wC_take (l : List (Int × Int)) (k : Nat) : (wC l).take (k * 2) = wC (l.take k) := by
 induction k generalizing l with
 | zero => simp [wC]
 | succ k ih =>
  cases l with
  | nil => simp [wC]
  | cons x r =>
   rw [List.take_succ_cons]
   simp only [wC, List.flatMap_cons] at *
   rw [← ih, show (k + 1) * 2 = (wP x).length + k * 2 by rw [show (wP x).length = 2 from rfl]; omega, List.take_length_add_append]
theorem erase_eq {α : Type} (l : List α) (i : Nat) : l.take i ++ l.drop (i + 1) = l.eraseIdx i := (List.eraseIdx_eq_take_drop_succ l i).symm
def fp (b : Nat) (a1 a2 : Option Addr) (k : Nat) : Prop := k = b ∨ blk a1 = some k ∨ blk a2 = some k
structure LnAt (w : World) (T : TypeId) (b : Nat) (s : LS) (a1 : Option Addr) (c1 : Nat) (a2 : Option Addr) (c2 : Nat) : Prop where
 obj : w.heap[b]? = some (.cells #[.int .i64 s.room, .slice a1 s.vs.length c1, .slice a2 s.ws.length c2, .int .i64 s.tk, .int .i64 s.dr] T (0, 0))
 vals : Row w 2 1 a1 s.vs.length c1 (iC s.vs)
 wts : Row w 259 2 a2 s.ws.length c2 (wC s.ws)
 f1 : ∀ k, blk a1 = some k → k ≠ b
 f2 : ∀ k, blk a2 = some k → k ≠ b ∧ blk a1 ≠ some k
section
variable {w w' : World} {T : TypeId} {b : Nat} {s : LS} {a1 a2 : Option Addr} {c1 c2 : Nat}
theorem LnAt.lt (h : LnAt w T b s a1 c1 a2 c2) : ∀ k, fp b a1 a2 k → k < w.heap.size := fun k hk => by
 rcases hk with rfl | hk | hk
 ·exact (Array.getElem?_eq_some_iff.1 h.obj).1
 ·exact h.vals.lt k hk
 ·exact h.wts.lt k hk
theorem LnAt.blt (h : LnAt w T b s a1 c1 a2 c2) : b < w.heap.size := h.lt b (.inl rfl)
theorem LnAt.kept (h : LnAt w T b s a1 c1 a2 c2) (hk : ∀ k, fp b a1 a2 k → w'.heap[k]? = w.heap[k]?) : LnAt w' T b s a1 c1 a2 c2 :=
 ⟨by rw [hk b (.inl rfl)]; exact h.obj, h.vals.kept fun k hk' => hk k (.inr (.inl hk')), h.wts.kept fun k hk' => hk k (.inr (.inr hk')), h.f1, h.f2⟩
theorem LnAt.below (h : LnAt w T b s a1 c1 a2 c2) (hb : Below w.heap.size w w') : LnAt w' T b s a1 c1 a2 c2 := h.kept fun k hk => hb.block k (h.lt k hk)
theorem LnAt.mod {S : Nat → Prop} (h : LnAt w T b s a1 c1 a2 c2) (hm : Mod S w w') (hn : ∀ k, fp b a1 a2 k → ¬ S k) : LnAt w' T b s a1 c1 a2 c2 := h.kept fun k hk => hm.block k (h.lt k hk) (hn k hk)
theorem LnAt.cells (h : LnAt w T b s a1 c1 a2 c2) : w.cell? ⟨b, 0, none⟩ = some (.int .i64 s.room) ∧ w.cell? ⟨b, 1, none⟩ = some (.slice a1 s.vs.length c1) ∧ w.cell? ⟨b, 2, none⟩ = some (.slice a2 s.ws.length c2) ∧ w.cell? ⟨b, 3, none⟩ = some (.int .i64 s.tk) ∧ w.cell? ⟨b, 4, none⟩ = some (.int .i64 s.dr) := by
 refine ⟨?_, ?_, ?_, ?_, ?_⟩ <;> (rw [cell_of_row _ _ _ _ _ _ h.obj]; rfl)
theorem LnAt.free (h : LnAt w T b s a1 c1 a2 c2) (i : Nat) : w.frozen? ⟨b, i, none⟩ = false := by simp [World.frozen?, h.obj]
theorem heap_setCell_self {w : World} {b i : Nat} {cs : Array Value} {t : TypeId} {fr : Nat × Nat} (h : w.heap[b]? = some (.cells cs t fr)) (u : Value) : (w.setCell ⟨b, i, none⟩ u).heap[b]? = some (.cells (cs.setIfInBounds i u) t fr) := by
 simp [World.setCell, Array.getElem?_modify, h]
theorem LnAt.putW (h : LnAt w T b s a1 c1 a2 c2) (hm : Mod (fun k => blk a2 = some k) w w') {a2' : Option Addr} {ws' : List (Int × Int)} {n c2' : Nat} (hR : Row w' 259 2 a2' n c2' (wC ws')) (hl : n = ws'.length) (hn : ∀ k, blk a2' = some k → blk a2 = some k ∨ w.heap.size ≤ k) :
  LnAt (w'.setCell ⟨b, 2, none⟩ (.slice a2' n c2')) T b { s with ws := ws' } a1 c1 a2' c2' := by
 subst hl
 have hlt := h.lt
 have hb' : w'.heap[b]? = w.heap[b]? := hm.block b h.blt (fun e => (h.f2 b e).1 rfl)
 have hk' : ∀ k, k ≠ b → (w'.setCell ⟨b, 2, none⟩ (.slice a2' ws'.length c2')).heap[k]? = w'.heap[k]? := fun k hk => Below.heap_setCell _ _ _ _ hk
 have n1 : ∀ k, blk a2' = some k → k ≠ b := fun k hk => by
  rcases hn k hk with h1 | h1
  ·exact (h.f2 k h1).1
  ·have := h.blt; omega
 have n2 : ∀ k, blk a2' = some k → blk a1 ≠ some k := fun k hk e => by
  rcases hn k hk with h1 | h1
  ·exact (h.f2 k h1).2 e
  ·have := hlt k (.inr (.inl e)); omega
 refine ⟨?_, (h.vals.mod hm fun k hk e => (h.f2 k e).2 hk).kept fun k hk => hk' k (h.f1 k hk), hR.kept fun k hk => hk' k (n1 k hk), h.f1, fun k hk => ⟨n1 k hk, n2 k hk⟩⟩
 rw [heap_setCell_self (hb'.trans h.obj)]
 rfl
end
def Ln (w : World) (T : TypeId) (b : Nat) (F : Nat → Prop) (s : LS) : Prop := ∃ a1 c1 a2 c2, LnAt w T b s a1 c1 a2 c2 ∧ (∀ k, fp b a1 a2 k → F k) ∧ ∀ k, F k → k < w.heap.size
theorem Ln.mod {w w' : World} {T : TypeId} {b : Nat} {F S : Nat → Prop} {s : LS} (h : Ln w T b F s) (hm : Mod S w w') (hn : ∀ k, F k → ¬ S k) : Ln w' T b F s := by
 obtain ⟨a1, c1, a2, c2, h1, h2, h3⟩ := h
 exact ⟨a1, c1, a2, c2, h1.mod hm fun k hk => hn k (h2 k hk), h2, fun k hk => Nat.lt_of_lt_of_le (h3 k hk) hm.size⟩
theorem Ln.below {w w' : World} {T : TypeId} {b : Nat} {F : Nat → Prop} {s : LS} (h : Ln w T b F s) (hb : Below w.heap.size w w') : Ln w' T b F s := h.mod (Mod.of_below (fun _ => False) hb) (fun _ _ h => h)
theorem Ln.lt {w : World} {T : TypeId} {b : Nat} {F : Nat → Prop} {s : LS} (h : Ln w T b F s) : ∀ k, F k → k < w.heap.size := by
 obtain ⟨a1, c1, a2, c2, h1, h2, h3⟩ := h
 exact h3
theorem LnAt.ln {w : World} {T : TypeId} {b : Nat} {s : LS} {a1 a2 : Option Addr} {c1 c2 : Nat} (h : LnAt w T b s a1 c1 a2 c2) : Ln w T b (fp b a1 a2) s := ⟨a1, c1, a2, c2, h, fun _ h => h, h.lt⟩
def LnOut (w : World) (T : TypeId) (b : Nat) (F : Nat → Prop) (s' : LS) (w' : World) : Prop := Mod F w w' ∧ ∃ F', Ln w' T b F' s' ∧ ∀ k, F' k → F k ∨ w.heap.size ≤ k
theorem LnOut.same {w w' : World} {T : TypeId} {b : Nat} {F : Nat → Prop} {s : LS} (h : Ln w T b F s) (hb : Below w.heap.size w w') : LnOut w T b F s w' := ⟨Mod.of_below _ hb, F, h.below hb, fun _ h => .inl h⟩
end Go.Proofs.YthhcecllejddeaaGreatDoor.Lane

namespace Go.Proofs.YthhcecllejddeaaGreatDoor.Lane
open Go.RowKit
theorem infoI : (Tryz.prog.info? 2).map (fun i => (i.zero, i.size, i.bytes)) = some (some (.int .i64 0), 1, 8) := by kernel_rfl
theorem infoW : (Tryz.prog.info? 259).map (fun i => (i.zero, i.size, i.bytes)) = some (some (.agg #[.int .i64 0, .int .i64 0]), 2, 16) := by kernel_rfl
theorem sizeI : (Tryz.prog.info? 2).map (·.size) = some 1 := by kernel_rfl
theorem sizeW : (Tryz.prog.info? 259).map (·.size) = some 2 := by kernel_rfl
theorem info_parts {P : Program} {e : TypeId} {z : Value} {size bytes : Nat} (h : (P.info? e).map (fun i => (i.zero, i.size, i.bytes)) = some (some z, size, bytes)) : ∃ i, P.info? e = some i ∧ i.zero = some z ∧ i.size = size ∧ i.bytes = bytes := by
 cases hi : P.info? e with
 | none => rw [hi] at h; cases h
 | some i =>
  rw [hi] at h
  simp only [Option.map_some, Option.some.injEq, Prod.mk.injEq] at h
  exact ⟨i, rfl, h.1, h.2.1, h.2.2⟩
theorem below_drewN {B : Nat} {a w : World} (h : Below B a w) (n : Nat) : Below B a (w.drewN n) := ⟨h.os, h.tape, h.output, h.size, h.block⟩
theorem make_eq (t e : TypeId) (z : Value) (size bytes : Nat) (ht : Tryz.prog.underlying t = some (.slice e)) (hi : (Tryz.prog.info? e).map (fun i => (i.zero, i.size, i.bytes)) = some (some z, size, bytes)) (n : Nat) (hb : bytes * n ≤ 281474976710656) (h63 : n ≤ maxLen) (W : World) :
  (Instr.makeSlice t (.int .i64 (n : Int)) (.int .i64 (n : Int))).run Tryz.prog W = .ok (.slice (some ⟨W.heap.size, 0, none⟩) n n) (W.alloc (.cells (madeCells z.cells (n * size)) e)) := by
 obtain ⟨i, h1, h2, h3, h4⟩ := info_parts hi
 subst h3 h4
 have h63' : (n : Int) ≤ 9223372036854775807 := by
  have h := h63
  simp [maxLen] at h
  omega
 have hb' : (i.bytes : Int) * (n : Int) ≤ 281474976710656 := by
  have h : ((i.bytes * n : Nat) : Int) ≤ 281474976710656 := by omega
  rwa [Int.natCast_mul] at h
 have hr := run_make (P := Tryz.prog) W t e i z ht h1 h2 .i64 .i64 n n (by omega) (Int.le_refl _) hb' h63'
 simp only [Int.toNat_natCast] at hr
 exact hr
theorem counts_any (n : Int) (w : World) (B : Bool) (hB : B = decide (0 ≤ n ∧ n ≤ 65535)) : Calls Tryz.prog 220 #[.int .i64 n] w fun e w' => e = .returned (.bool B) ∧ w' = w := by
 by_cases h0 : 0 ≤ n
 ·by_cases h1 : n ≤ 65535
  ·obtain rfl : B = true := by rw [hB]; simp; omega
   clear hB
   go_enter Tryz.func220, Tryz.ntmps220
   go_wp2
   go_ret
   exact ⟨rfl, rfl⟩
  ·obtain rfl : B = false := by rw [hB]; simp; omega
   have h1' : decide (n ≤ 65535) = false := by simpa using h1
   clear hB
   go_enter Tryz.func220, Tryz.ntmps220
   go_wp2
   go_ret
   exact ⟨rfl, rfl⟩
 ·obtain rfl : B = false := by rw [hB]; simp; omega
  have h0' : decide (0 ≤ n) = false := by simpa using h0
  clear hB
  go_enter Tryz.func220, Tryz.ntmps220
  go_wp2
  go_ret
  exact ⟨rfl, rfl⟩
theorem copied_i {a : Option Addr} {cap : Nat} {vs : List Int} {w : World} (hR : Rd w a (iC vs)) (hn : vs.length ≤ 8000000000000) :
  Calls Tryz.prog 158 #[.slice a vs.length cap] w fun e w' => ∃ g, e = .returned (.slice (some ⟨g, 0, none⟩) vs.length vs.length) ∧ Row w' 2 1 (some ⟨g, 0, none⟩) vs.length vs.length (iC vs) ∧ w.heap.size ≤ g ∧ Below w.heap.size w w' := by
 obtain ⟨n, hN⟩ : ∃ n, Hid (vs.length = n) := ⟨_, rfl⟩
 have hl := iC_len vs
 rw [hN.out] at hn hl ⊢
 have hmk := make_eq 216 2 (.int .i64 0) 1 8 Tryz.underlying216 infoI n (by omega) (by unfold maxLen; omega) w
 obtain ⟨zs, hzs⟩ : ∃ zs, Hid (madeCells (Value.int .i64 0).cells (n * 1) = zs) := ⟨_, rfl⟩
 have hz : zs.size = n * 1 := by rw [← hzs.out]; simp [size_madeCells]
 rw [hzs.out] at hmk
 obtain ⟨w2, hcp, hR2, hb2⟩ := copy_new (P := Tryz.prog) w 216 2 1 (by decide) Tryz.underlying216 sizeI (c := cap) hR hl (by unfold maxLen; omega) (iC_one vs) zs hz
 have HR := hd hR2
 have HB := hd hb2
 clear hz hR hR2 hb2 hl
 go_enter Tryz.func158, Tryz.ntmps158
 go_wp2_with fail
 go_ret
 exact ⟨_, rfl, HR.out, Nat.le_refl _, HB.out⟩
theorem copied_w {a : Option Addr} {cap : Nat} {ws : List (Int × Int)} {w : World} (hR : Rd w a (wC ws)) (hn : ws.length ≤ 8000000000000) :
  Calls Tryz.prog 159 #[.slice a ws.length cap] w fun e w' => ∃ g, e = .returned (.slice (some ⟨g, 0, none⟩) ws.length ws.length) ∧ Row w' 259 2 (some ⟨g, 0, none⟩) ws.length ws.length (wC ws) ∧ w.heap.size ≤ g ∧ Below w.heap.size w w' := by
 obtain ⟨n, hN⟩ : ∃ n, Hid (ws.length = n) := ⟨_, rfl⟩
 have hl := wC_len ws
 rw [hN.out] at hn hl ⊢
 have hmk := make_eq 217 259 (.agg #[.int .i64 0, .int .i64 0]) 2 16 Tryz.underlying217 infoW n (by omega) (by unfold maxLen; omega) w
 obtain ⟨zs, hzs⟩ : ∃ zs, Hid (madeCells (Value.agg #[.int .i64 0, .int .i64 0]).cells (n * 2) = zs) := ⟨_, rfl⟩
 have hz : zs.size = n * 2 := by rw [← hzs.out]; simp [size_madeCells]
 rw [hzs.out] at hmk
 obtain ⟨w2, hcp, hR2, hb2⟩ := copy_new (P := Tryz.prog) w 217 259 2 (by decide) Tryz.underlying217 sizeW (c := cap) hR hl (by unfold maxLen; omega) (wC_one ws) zs hz
 have HR := hd hR2
 have HB := hd hb2
 clear hz hR hR2 hb2 hl
 go_enter Tryz.func159, Tryz.ntmps159
 go_wp2_with fail
 go_ret
 exact ⟨_, rfl, HR.out, Nat.le_refl _, HB.out⟩
end Go.Proofs.YthhcecllejddeaaGreatDoor.Lane

namespace Go.Proofs.YthhcecllejddeaaGreatDoor.Lane
open Go.RowKit
theorem shift_row {P : Program} {w : World} {T e : TypeId} {size g n cap i : Nat} {xs : List Value} (hu : P.underlying T = some (.slice e)) (hs : (P.info? e).map (·.size) = some size)
  (hR : Row w e size (some ⟨g, 0, none⟩) n cap xs) (hi : i + 1 < n) (h1 : ∀ v ∈ xs, v.oneCell' = true) :
  ∃ w', (∀ ty, (Builtin.copy_ #[T, T] ty #[.slice (some ⟨g, i * size, none⟩) (n - i) (cap - i), .slice (some ⟨g, (i + 1) * size, none⟩) (n - (i + 1)) (cap - (i + 1))]).run P w = .ok (goInt ((n - (i + 1) : Nat) : Int)) w') ∧
   Row w' e size (some ⟨g, 0, none⟩) (n - 1) (n - 1) (xs.take (i * size) ++ xs.drop ((i + 1) * size)) ∧ Mod (fun k => k = g) w w' := by
 obtain ⟨r1, r2, r3, ⟨r4, _⟩ | ⟨g', cur, r4, hg, hsz, htk⟩⟩ := hR
 ·cases r4
 ·cases r4
  have hmin : Nat.min (n - (i + 1)) (n - i) = n - (i + 1) := Nat.min_eq_left (by omega)
  have hcl : (xs.drop ((i + 1) * size)).length = (n - (i + 1)) * size := by rw [List.length_drop, r1, Nat.sub_mul]
  have hnc : n * size ≤ cap * size := Nat.mul_le_mul_right _ r2
  have hik : (i + 1) * size ≤ n * size := Nat.mul_le_mul_right _ (by omega)
  have hii : i * size + size = (i + 1) * size := by rw [Nat.add_mul, Nat.one_mul]
  have hsub : (n - (i + 1)) * size = n * size - (i + 1) * size := Nat.sub_mul _ _ _
  have hfit : i * size + (xs.drop ((i + 1) * size)).length ≤ cur.size := by rw [hcl]; omega
  have hc := fun ty => run_copy_sz (P := P) w T T ty e size g (i * size) (n - i) (cap - i) ⟨g, (i + 1) * size, none⟩ (n - (i + 1)) (cap - (i + 1)) cur e (xs.drop ((i + 1) * size)) hu hs hg (by rw [hmin]; exact hcl)
   (fun j v hj => by
    rw [addr_add, cell_of_row _ _ _ _ _ _ hg]
    rw [List.getElem?_drop, ← htk, List.getElem?_take] at hj
    split at hj
    ·simpa using hj
    ·cases hj) hfit (fun v hv => h1 v (List.mem_of_mem_drop hv))
  rw [hmin] at hc
  refine ⟨_, hc, ?_, (Mod.refl (fun k => k = g) w).setRow (.inl rfl) _⟩
  have hn1 : (n - 1) * size = n * size - size := by rw [Nat.sub_mul, Nat.one_mul]
  have htl : (xs.take (i * size) ++ xs.drop ((i + 1) * size)).length = (n - 1) * size := by
   rw [List.length_append, List.length_take, hcl, r1, Nat.min_eq_left (by omega)]
   omega
  refine ⟨htl, Nat.le_refl _, by omega, .inr ⟨g, _, rfl, setRow_heap _ _ _ _ _ _ hg, ?_, ?_⟩⟩
  ·simp [hcl]
   omega
  ·have e1 : cur.toList.take (i * size) = xs.take (i * size) := by rw [← htk, List.take_take, Nat.min_eq_left (by omega)]
   simp only
   rw [e1, ← htl, List.take_left]
theorem cut_row {w : World} {e : TypeId} {size g n cap : Nat} {xs : List Value} (hR : Row w e size (some ⟨g, 0, none⟩) n cap xs) (hn : 0 < n) : Row w e size (some ⟨g, 0, none⟩) (n - 1) (n - 1) (xs.take ((n - 1) * size) ++ xs.drop (((n - 1) + 1) * size)) := by
 have := hR.cut (n - 1) (n - 1) (by omega) (Nat.le_refl _) (by have := hR.capLe; omega) (fun h => by cases h)
 rwa [List.drop_of_length_le (by rw [hR.len, Nat.sub_add_cancel hn]; exact Nat.le_refl _), List.append_nil]
def WOut (w : World) (e : TypeId) (size g n : Nat) (xs : List Value) (E : Ending) (w' : World) : Prop :=
 E = .returned (.slice (some ⟨g, 0, none⟩) n n) ∧ Row w' e size (some ⟨g, 0, none⟩) n n xs ∧ Mod (fun k => k = g) w w'
theorem without_w {g cap i : Nat} {ws : List (Int × Int)} {w : World} (hR : Row w 259 2 (some ⟨g, 0, none⟩) ws.length cap (wC ws)) (hi : i < ws.length) :
  Calls Tryz.prog 241 #[.slice (some ⟨g, 0, none⟩) ws.length cap, .int .i64 i] w (WOut w 259 2 g (ws.length - 1) (wC (ws.eraseIdx i))) := by
 obtain ⟨Q, hQ⟩ : ∃ Q, Hid (WOut w 259 2 g (ws.length - 1) (wC (ws.eraseIdx i)) = Q) := ⟨_, rfl⟩
 rw [hQ.out]
 have hE : wC (ws.eraseIdx i) = (wC ws).take (i * 2) ++ (wC ws).drop ((i + 1) * 2) := by rw [← erase_eq, wC_app, wC_take, wC_drop]
 have h1 := hR.capLe
 have h2 : cap < 9223372036854775807 + 1 := by have := hR.2.2.1; unfold maxLen at this; omega
 have HR : Hid (Row w.drew 259 2 (some ⟨g, 0, none⟩) ws.length cap (wC ws)) := hd (hR.below ((Below.refl _ w).drew))
 have HM : Hid (Mod (fun k => k = g) w w.drew) := hd (Mod.of_below _ ((Below.refl _ w).drew))
 clear hR
 obtain ⟨n, hN⟩ : ∃ n, Hid (ws.length = n) := ⟨_, rfl⟩
 rw [hN.out] at hi h1 HR hQ ⊢
 have k1 : (i : Int) ≤ n := by omega
 have k2 : (i : Int) + 1 ≤ n := by omega
 have k3 : (n : Int) ≤ cap := by omega
 have k4 : cap ≠ i := by omega
 have k5 : (0 : Int) ≤ (n : Int) - 1 := by omega
 have k7 : (n : Int) - 1 = ((n - 1 : Nat) : Int) := by omega
 obtain ⟨m, hm⟩ : ∃ m, Hid (n - 1 = m) := ⟨_, rfl⟩
 rw [hm.out] at k7 hQ
 have k8 : m ≤ cap := by have := hm.out; omega
 by_cases hlast : i + 1 < n
 ·have k6 : cap ≠ i + 1 := by omega
  obtain ⟨w2, hcp, R2, M2⟩ := shift_row (P := Tryz.prog) Tryz.underlying217 sizeW HR.out hlast (wC_one ws)
  have HF : Hid (Q (.returned (.slice (some ⟨g, 0, none⟩) m m)) w2) := hd (by
   rw [← hQ.out]
   exact ⟨rfl, by rw [hE, ← hm.out]; exact R2, HM.out.trans M2 (fun _ h => .inl h)⟩)
  clear R2 M2 hE HR HM
  go_enter Tryz.func241, Tryz.ntmps241
  go_wp2_with fail
  go_region
  go_wp2_with fail
  exact HF.out
 ·have hz := fun ty d dl dc a sc => run_copy_zero (P := Tryz.prog) w.drew 217 217 ty 259 2 d a dl dc 0 sc Tryz.underlying217 sizeW (by simp)
  have e0 : n - (i + 1) = 0 := by omega
  have HF : Hid (Q (.returned (.slice (some ⟨g, 0, none⟩) m m)) w.drew) := hd (by
   rw [← hQ.out]
   refine ⟨rfl, ?_, HM.out⟩
   have := cut_row HR.out (by omega)
   rw [hE, ← hm.out]
   have ei : i = n - 1 := by omega
   rw [ei]
   exact this)
  clear hE HR HM
  by_cases hcap : cap = i + 1
  ·obtain rfl : n = i + 1 := by omega
   subst hcap
   obtain rfl : m = i := by have := hm.out; omega
   go_enter Tryz.func241, Tryz.ntmps241
   go_wp2_with fail
   go_region
   go_wp2_with fail
   exact HF.out
  ·go_enter Tryz.func241, Tryz.ntmps241
   go_wp2_with fail
   go_region
   go_wp2_with fail
   exact HF.out
end Go.Proofs.YthhcecllejddeaaGreatDoor.Lane

namespace Go.Proofs.YthhcecllejddeaaGreatDoor.Lane
open Go.RowKit
theorem place1_any {pb : Nat} {p q v : Int} {w : World} (hc : w.cell? ⟨pb, 0, none⟩ = some (.int .i64 p)) (hl : pb < w.heap.size) (B : Bool) (hB : (q == p) = B) :
  Calls Tryz.prog 261 #[.agg #[.int .i64 q, .int .i64 v], .pointer (some ⟨pb, 0, none⟩)] w fun e w' => e = .returned (.bool B) ∧ Below w.heap.size w w' := by
 have hne := Nat.ne_of_lt hl
 go_enter Tryz.func261, Tryz.ntmps261
 go_wp2_with fail
 go_ret
 exact ⟨rfl, (Below.refl _ _).alloc (Nat.le_refl _) _⟩
theorem rd_w {w : World} {a : Option Addr} {ws : List (Int × Int)} (h : Rd w a (wC ws)) (i : Nat) (hi : i < ws.length) : ∃ b o, a = some ⟨b, o, none⟩ ∧ w.cell? ⟨b, o + i * 2, none⟩ = some (.int .i64 (ws.getD i (0, 0)).1) ∧ w.cell? ⟨b, o + i * 2 + 1, none⟩ = some (.int .i64 (ws.getD i (0, 0)).2) := by
 obtain ⟨h1, h2⟩ := wC_at ws i hi
 obtain ⟨b, o, rfl, k1⟩ := h _ _ h1
 obtain ⟨b', o', e, k2⟩ := h _ _ h2
 cases e
 exact ⟨b, o, rfl, k1, k2⟩
set_option maxRecDepth 100000 in
set_option maxHeartbeats 2000000 in
theorem index_any {a : Option Addr} {cap pb : Nat} {p : Int} {ws : List (Int × Int)} {w : World} (hR : Rd w a (wC ws)) (hc : w.cell? ⟨pb, 0, none⟩ = some (.int .i64 p)) (hl : pb < w.heap.size) (hn : ws.length ≤ 8000000000000) :
  Calls Tryz.prog 260 #[.slice a ws.length cap, .func (.func 261) #[] #[.pointer (some ⟨pb, 0, none⟩)]] w fun e w' => e = .returned (.int .i64 (idxL ws p)) ∧ Below w.heap.size w w' := by
 obtain ⟨I, hI⟩ : ∃ I, Hid (idxL ws p = I) := ⟨_, rfl⟩
 rw [hI.out]
 have HR := hd hR
 have HC := hd hc
 clear hR hc
 go_enter Tryz.func260, Tryz.ntmps260
 go_wp2_with fail
 go_loopg [5, 8] ws.length (fun k v5 v8 wr => ∃ i : Nat, v8 = .int .i64 i ∧ i + k = ws.length ∧ Hid (Below w.heap.size w wr ∧ ∀ j, j < i → (ws.getD j (0, 0)).1 ≠ p))
 case atStart => exact ⟨0, rfl, by omega, hd ⟨below_same _, fun j hj => absurd hj (Nat.not_lt_zero j)⟩⟩
 case round =>
  obtain ⟨i, rfl, hik, HH⟩ := hrel
  have hb := HH.out.1
  by_cases hlt : i < ws.length
  ·have hlt' : (i : Int) < (ws.length : Int) := by omega
   obtain ⟨b, o, rfl, c0, c1⟩ := rd_w (HR.out.below hb) i hlt
   have hp := (hb.cell (p := ⟨pb, 0, none⟩) hl).trans HC.out
   have hpl := Nat.lt_of_lt_of_le hl hb.size
   obtain ⟨⟨q, v⟩, hq⟩ : ∃ t, Hid (ws.getD i (0, 0) = t) := ⟨_, rfl⟩
   rw [hq.out] at c0 c1
   simp only at c0 c1
   by_cases he : q = p
   ·have hcl := place1_any (q := q) (v := v) hp hpl true (by simp [he])
    have hF : Hid (I = (i : Int)) := hd (by rw [← hI.out]; exact idxL_some hlt (by rw [hq.out]; exact he) HH.out.2)
    clear he
    go_wp2_with (first | (go_at_call 261; refine hcl.mono ?_; rintro e1 w1 ⟨rfl, b1⟩))
    go_ret
    exact ⟨by rw [hF.out]; rfl, hb.trans (b1.mono hb.size)⟩
   ·have hcl := place1_any (q := q) (v := v) hp hpl false (by simp [he])
    have HN : Hid (q ≠ p) := hd he
    clear he
    go_wp2_with (first | (go_at_call 261; refine hcl.mono ?_; rintro e1 w1 ⟨rfl, b1⟩))
    go_roundg (gk - 1)
    case measure => omega
    case rel =>
     exact ⟨i + 1, by go_num, by omega, hd ⟨hb.trans (b1.mono hb.size), fun j hj => by
      by_cases ej : j = i
      ·rw [ej, hq.out]; exact HN.out
      ·exact HH.out.2 j (by omega)⟩⟩
  ·have hltd : decide ((i : Int) < (ws.length : Int)) = false := by simp; omega
   have hF : Hid (I = -1) := hd (by rw [← hI.out]; exact idxL_none (fun j hj => HH.out.2 j (by omega)))
   go_wp2_with fail
   go_ret
   exact ⟨by rw [hF.out]; rfl, hb⟩
set_option maxRecDepth 100000 in
theorem place_any {b : Nat} {F : Nat → Prop} {s : LS} {w : World} (h : Ln w 263 b F s) (p : Int) (hn : s.ws.length ≤ 8000000000000) :
  Calls Tryz.prog 240 #[.pointer (some ⟨b, 0, none⟩), .int .i64 p] w fun e w' => e = .returned (.int .i64 (idxL s.ws p)) ∧ Below w.heap.size w w' := by
 obtain ⟨a1, c1, a2, c2, h, -, -⟩ := h
 have h2 := h.below (below_al w (.cells #[.int .i64 p] 3))
 obtain ⟨k0, k1, k2, k3, k4⟩ := h2.cells
 have hmf : ∀ (fn : Fn) (first cap : Array Value) (w : World), (Instr.makeFunc fn first cap).run Tryz.prog w = .ok (.func fn first cap) w := fun _ _ _ _ => rfl
 have hpb : (w.alloc (.cells #[.int .i64 p] 3)).cell? ⟨w.heap.size, 0, none⟩ = some (.int .i64 p) := by rw [cell_of_row _ _ _ _ _ _ (heap_alloc_new w _)]; rfl
 have hcl := index_any (cap := c2) h2.wts.rd hpb (by simp) hn
 have HB : Hid (Below w.heap.size w (w.alloc (.cells #[.int .i64 p] 3))) := hd (below_al w _)
 clear h h2 hpb
 go_enter Tryz.func240, Tryz.ntmps240
 go_wp2_with (first | (go_at_call 260; refine hcl.mono ?_; rintro e1 w1 ⟨rfl, b1⟩))
 go_ret
 exact ⟨rfl, HB.out.trans (b1.mono HB.out.size)⟩
end Go.Proofs.YthhcecllejddeaaGreatDoor.Lane
